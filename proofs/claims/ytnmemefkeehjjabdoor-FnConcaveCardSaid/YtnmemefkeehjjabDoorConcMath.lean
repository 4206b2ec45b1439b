/-
  MATCHING NUMBERS OF AT MOST SEVEN NODES ARE CONCAVE: plain functions, no walk.
-/
import Derived.Test.YtnmemefkeehjjabDoorNumAt
namespace Go.Proofs.YtnmemefkeehjjabDoor
set_option linter.unusedVariables false
set_option linter.unusedSimpArgs false
open Go.RowKit
set_option maxRecDepth 100000

def Irr (f : Nat → Nat) : Prop := ∀ v : Fin 8, (f v.val).testBit v.val = false

theorem sumN_mono {h g : Nat → Nat} : ∀ n, (∀ i, i < n → h i ≤ g i) → sumN h n ≤ sumN g n
  | 0, _ => Nat.le_refl _
  | n + 1, e => by
    rw [sumN_succ, sumN_succ]
    exact Nat.add_le_add (sumN_mono n fun i hi => e i (by omega)) (e n (by omega))
theorem sumN_pos {h : Nat → Nat} : ∀ n, 0 < sumN h n → ∃ i, i < n ∧ 0 < h i
  | 0, e => by simp [sumN] at e
  | n + 1, e => by
    rw [sumN_succ] at e
    by_cases c : 0 < h n
    · exact ⟨n, by omega, c⟩
    · obtain ⟨i, hi, hp⟩ := sumN_pos (h := h) n (by omega)
      exact ⟨i, by omega, hp⟩

theorem nums_mono {f : Nat → Nat} (hf : SymB f) (hi : Irr f) {s : Nat} (hs : s < 256) (v : Fin 8) (hv : s.testBit v.val = true) (k : Nat) : nums f (wo s v.val) k ≤ nums f s k := by
  cases k with
  | zero => rw [nums_none' hs, nums_none' (wo_256 hs)]; exact Nat.le_refl _
  | succ j => rw [nums_at hf s hs v hv (hi v) j]; exact Nat.le_add_right _ _
theorem nums_fewer {f : Nat → Nat} (hf : SymB f) {s k j : Nat} (hs : s < 256) (h : 0 < nums f s k) (hj : j ≤ k) : 0 < nums f s j := (nums_has hf s hs j).2 (((nums_has hf s hs k).1 h).fewer hj)
theorem nums_less {f : Nat → Nat} (hf : SymB f) {s k : Nat} (hs : s < 256) (u : Fin 8) (hu : s.testBit u.val = true) (h : 0 < nums f s (k + 1)) : 0 < nums f (wo s u.val) k := by
  refine (nums_has hf _ (wo_256 hs) k).2 ?_
  rcases ((nums_has hf s hs (k + 1)).1 h).take hf u hu with h1 | ⟨w, j, e, _, _, h2⟩
  · exact h1.fewer (by omega)
  · obtain rfl : k = j := by omega
    exact h2.mono (sub8_wo _ w)

/-- The nodes that the lowest one may be linked to are among the others. -/
theorem tie_in {f : Nat → Nat} {s u : Nat} (h : (tieOf f s).testBit u = true) : (rst s).testBit u = true := by
  unfold tieOf at h
  rw [Nat.testBit_and, Bool.and_eq_true] at h
  exact h.2
theorem one_sum {f : Nat → Nat} {s : Nat} (hs : s < 256) (h0 : s ≠ 0) : nums f s 1 = nums f (rst s) 1 + sumN (fun u => if (tieOf f s).testBit u = true then 1 else 0) 8 := by
  rw [nums_sum hs h0 0]
  congr 1
  exact sumN_congr 8 fun u _ => by rw [nums_none' (show wo (rst s) u < 256 from wo_256 (wo_256 hs))]
theorem two_sum {f : Nat → Nat} {s : Nat} (hs : s < 256) (h0 : s ≠ 0) : nums f s 2 = nums f (rst s) 2 + sumN (fun w => if (tieOf f s).testBit w = true then nums f (wo (rst s) w) 1 else 0) 8 := nums_sum hs h0 1
theorem three_sum {f : Nat → Nat} {s : Nat} (hs : s < 256) (h0 : s ≠ 0) : nums f s 3 = nums f (rst s) 3 + sumN (fun w => if (tieOf f s).testBit w = true then nums f (wo (rst s) w) 2 else 0) 8 := nums_sum hs h0 2
theorem der_k {f : Nat → Nat} {s m k : Nat} (hs : s < 256) (hm : (bitsOf s).length = m) (hk : 2 * k ≤ m) : sumN (fun v => if s.testBit v = true then nums f (wo s v) k else 0) 8 = (m - 2 * k) * nums f s k := by
  have h := der_nums (f := f) s hs k
  rw [hm] at h
  have e : m * nums f s k = (m - 2 * k) * nums f s k + 2 * k * nums f s k := by rw [← Nat.add_mul, Nat.sub_add_cancel hk]
  omega
/-- A sum over those the lowest one may be linked to is at most that over all others. -/
theorem tie_le {f : Nat → Nat} {s : Nat} (g : Nat → Nat) : sumN (fun u => if (tieOf f s).testBit u = true then g u else 0) 8 ≤ sumN (fun u => if (rst s).testBit u = true then g u else 0) 8 :=
  sumN_mono 8 fun u _ => by
    cases hb : (tieOf f s).testBit u with
    | false => simp
    | true => rw [tie_in hb]; exact Nat.le_refl _

theorem conc_one {f : Nat → Nat} (hf : SymB f) (hi : Irr f) : ∀ s, s < 256 → nums f s 2 ≤ nums f s 1 * nums f s 1 := by
  intro s
  induction s using Nat.strongRecOn with
  | _ s ih =>
    intro hs
    by_cases h0 : s = 0
    · subst h0; rw [nums_zero, nums_zero]; simp
    · have hr := rst_lt hs h0
      have hr256 : rst s < 256 := wo_256 hs
      have ih1 := ih (rst s) hr hr256
      rw [one_sum hs h0, two_sum hs h0]
      obtain ⟨A, hA⟩ : ∃ A, nums f (rst s) 1 = A := ⟨_, rfl⟩
      have hle : sumN (fun w => if (tieOf f s).testBit w = true then nums f (wo (rst s) w) 1 else 0) 8 ≤ sumN (fun u => A * (if (tieOf f s).testBit u = true then 1 else 0)) 8 := sumN_mono 8 fun u hu => by
        cases hb : (tieOf f s).testBit u with
        | false => simp
        | true =>
          have := nums_mono hf hi hr256 ⟨u, hu⟩ (tie_in hb) 1
          simp only at this
          rw [hA] at this
          simpa using this
      rw [sumN_mul] at hle
      rw [hA] at ih1 ⊢
      obtain ⟨d, hd⟩ : ∃ d, sumN (fun u => if (tieOf f s).testBit u = true then 1 else 0) 8 = d := ⟨_, rfl⟩
      rw [hd] at hle ⊢
      rw [Nat.add_mul, Nat.mul_add]
      have := Nat.zero_le (d * (A + d))
      omega

theorem nums_two {f : Nat → Nat} {s : Nat} (hs : s < 256) (h : (bitsOf s).length = 2) : nums f s 1 ≤ 1 := by
  have h0 : s ≠ 0 := fun e => by subst e; rw [bitsOf_zero] at h; cases h
  have hsz := size_rst hs h0
  have hr256 : rst s < 256 := wo_256 hs
  rw [one_sum hs h0, nums_far f _ (rst s) hr256 rfl 1 (by omega)]
  have h1 := tie_le (f := f) (s := s) (fun _ => 1)
  have h2 := bits_eight (rst s) hr256
  omega
theorem nums_four {f : Nat → Nat} {s : Nat} (hs : s < 256) (h : (bitsOf s).length = 4) : 2 * nums f s 2 ≤ nums f s 1 := by
  have h0 : s ≠ 0 := fun e => by subst e; rw [bitsOf_zero] at h; cases h
  have hsz := size_rst hs h0
  have hr256 : rst s < 256 := wo_256 hs
  have hd := der_k (f := f) (k := 1) hr256 (m := 3) (by omega) (by omega)
  have h1 := tie_le (f := f) (s := s) (fun u => nums f (wo (rst s) u) 1)
  have h2 : sumN (fun u => if (tieOf f s).testBit u = true then nums f (wo (rst s) u) 1 else 0) 8 ≤ sumN (fun u => if (tieOf f s).testBit u = true then 1 else 0) 8 := sumN_mono 8 fun u hu => by
    cases hb : (tieOf f s).testBit u with
    | false => simp
    | true =>
      have hsz2 := size_wo hr256 hu (tie_in hb)
      have := nums_two (f := f) (wo_256 (v := u) hr256) (by omega)
      simpa using this
  rw [one_sum hs h0, two_sum hs h0, nums_far f _ (rst s) hr256 rfl 2 (by omega)]
  omega
theorem nums_six {f : Nat → Nat} {s : Nat} (hs : s < 256) (h : (bitsOf s).length = 6) : 3 * nums f s 3 ≤ nums f s 2 := by
  have h0 : s ≠ 0 := fun e => by subst e; rw [bitsOf_zero] at h; cases h
  have hsz := size_rst hs h0
  have hr256 : rst s < 256 := wo_256 hs
  have hd := der_k (f := f) (k := 2) hr256 (m := 5) (by omega) (by omega)
  have h1 := tie_le (f := f) (s := s) (fun u => nums f (wo (rst s) u) 2)
  have h2 : sumN (fun u => 2 * (if (tieOf f s).testBit u = true then nums f (wo (rst s) u) 2 else 0)) 8 ≤ sumN (fun u => if (tieOf f s).testBit u = true then nums f (wo (rst s) u) 1 else 0) 8 := sumN_mono 8 fun u hu => by
    cases hb : (tieOf f s).testBit u with
    | false => simp
    | true =>
      have hsz2 := size_wo hr256 hu (tie_in hb)
      have := nums_four (f := f) (wo_256 (v := u) hr256) (by omega)
      simpa using this
  rw [sumN_mul] at h2
  rw [three_sum hs h0, two_sum hs h0, nums_far f _ (rst s) hr256 rfl 3 (by omega)]
  omega
theorem nums_seven {f : Nat → Nat} {s : Nat} (hs : s < 256) (h : (bitsOf s).length = 7) : nums f s 3 ≤ nums f s 2 := by
  have hd3 := der_k (f := f) (k := 3) hs h (by omega)
  have hd2 := der_k (f := f) (k := 2) hs h (by omega)
  have h2 : sumN (fun u => 3 * (if s.testBit u = true then nums f (wo s u) 3 else 0)) 8 ≤ sumN (fun u => if s.testBit u = true then nums f (wo s u) 2 else 0) 8 := sumN_mono 8 fun u hu => by
    cases hb : s.testBit u with
    | false => simp
    | true =>
      have hsz2 := size_wo hs hu hb
      have := nums_six (f := f) (wo_256 (v := u) hs) (by omega)
      simpa using this
  rw [sumN_mul] at h2
  omega
theorem nums_32 {f : Nat → Nat} {s : Nat} (hs : s < 256) (h : (bitsOf s).length ≤ 7) : nums f s 3 ≤ nums f s 2 := by
  by_cases c7 : (bitsOf s).length = 7
  · exact nums_seven hs c7
  by_cases c6 : (bitsOf s).length = 6
  · have := nums_six (f := f) hs c6; omega
  · rw [nums_far f _ s hs rfl 3 (by omega)]; exact Nat.zero_le _

theorem nums_12 {f : Nat → Nat} (hf : SymB f) (hi : Irr f) : ∀ s, s < 256 → 0 < nums f s 3 → nums f s 1 ≤ nums f s 2 := by
  intro s
  induction s using Nat.strongRecOn with
  | _ s ih =>
    intro hs h3
    have h0 : s ≠ 0 := fun e => by subst e; rw [nums_zero] at h3; simp at h3
    have hr := rst_lt hs h0
    have hr256 : rst s < 256 := wo_256 hs
    by_cases cB : 0 < nums f (rst s) 3
    · have ih1 := ih (rst s) hr hr256 cB
      have hle : sumN (fun u => if (tieOf f s).testBit u = true then 1 else 0) 8 ≤ sumN (fun w => if (tieOf f s).testBit w = true then nums f (wo (rst s) w) 1 else 0) 8 := sumN_mono 8 fun u hu => by
        cases hb : (tieOf f s).testBit u with
        | false => simp
        | true =>
          have h2 := nums_less hf (k := 2) hr256 ⟨u, hu⟩ (tie_in hb) cB
          have := nums_fewer hf (j := 1) (wo_256 hr256) h2 (by omega)
          rw [if_pos rfl, if_pos rfl]
          exact this
      rw [one_sum hs h0, two_sum hs h0]
      omega
    · rw [three_sum hs h0] at h3
      obtain ⟨u0, hu0, hp⟩ := sumN_pos 8 (show 0 < sumN (fun w => if (tieOf f s).testBit w = true then nums f (wo (rst s) w) 2 else 0) 8 by omega)
      cases hb0 : (tieOf f s).testBit u0 with
      | false => rw [hb0] at hp; simp at hp
      | true =>
        rw [hb0, if_pos rfl] at hp
        have hru0 := tie_in hb0
        have hr2 : 0 < nums f (rst s) 2 := by
          have := nums_mono hf hi hr256 ⟨u0, hu0⟩ hru0 2
          simp only at this
          omega
        have n1 := nums_at hf (rst s) hr256 ⟨u0, hu0⟩ hru0 (hi _) 0
        have n2 := nums_at hf (rst s) hr256 ⟨u0, hu0⟩ hru0 (hi _) 1
        simp only [Nat.zero_add, Nat.reduceAdd] at n1 n2
        have hdeg : sumN (fun w => if (f u0 &&& wo (rst s) u0).testBit w = true then nums f (wo (wo (rst s) u0) w) 0 else 0) 8 ≤ sumN (fun w => if (f u0 &&& wo (rst s) u0).testBit w = true then nums f (wo (wo (rst s) u0) w) 1 else 0) 8 := sumN_mono 8 fun w hw => by
          cases hb : (f u0 &&& wo (rst s) u0).testBit w with
          | false => simp
          | true =>
            have hin : (wo (rst s) u0).testBit w = true := by rw [Nat.testBit_and, Bool.and_eq_true] at hb; exact hb.2
            have := nums_less hf (k := 1) (wo_256 hr256) ⟨w, hw⟩ hin hp
            simp only at this
            rw [if_pos rfl, if_pos rfl, nums_none' (wo_256 (wo_256 hr256))]
            exact this
        have a1 := sum_apart (fun u => (tieOf f s).testBit u) (fun u => nums f (wo (rst s) u) 1) ⟨u0, hu0⟩
        have a2 := sum_apart (fun u => (tieOf f s).testBit u) (fun _ => 1) ⟨u0, hu0⟩
        simp only [hb0, if_true] at a1 a2
        have hle : sumN (fun u => if (tieOf f s).testBit u = true ∧ u ≠ u0 then 1 else 0) 8 ≤ sumN (fun u => if (tieOf f s).testBit u = true ∧ u ≠ u0 then nums f (wo (rst s) u) 1 else 0) 8 := sumN_mono 8 fun u hu => by
          by_cases c : (tieOf f s).testBit u = true ∧ u ≠ u0
          · have := nums_less hf (k := 1) hr256 ⟨u, hu⟩ (tie_in c.1) hr2
            rw [if_pos c, if_pos c]
            exact this
          · rw [if_neg c, if_neg c]; exact Nat.le_refl _
        rw [one_sum hs h0, two_sum hs h0, a1, a2]
        omega

/-- Squares of matching numbers are at least the products of those beside. -/
theorem conc {f : Nat → Nat} (hf : SymB f) (hi : Irr f) {s : Nat} (hs : s < 256) (h7 : (bitsOf s).length ≤ 7) (k : Nat) : nums f s k * nums f s (k + 2) ≤ nums f s (k + 1) * nums f s (k + 1) := by
  match k with
  | 0 => rw [nums_none' hs, Nat.one_mul]; exact conc_one hf hi s hs
  | 1 =>
    by_cases c : 0 < nums f s 3
    · exact Nat.mul_le_mul (nums_12 hf hi s hs c) (nums_32 hs h7)
    · have : nums f s (1 + 2) = 0 := by show nums f s 3 = 0; omega
      rw [this]; simp
  | k + 2 => rw [nums_far f _ s hs rfl (k + 2 + 2) (by omega)]; simp

end Go.Proofs.YtnmemefkeehjjabDoor
