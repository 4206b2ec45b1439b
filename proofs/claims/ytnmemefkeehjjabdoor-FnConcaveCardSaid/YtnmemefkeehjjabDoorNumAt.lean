/-
  MATCHING NUMBERS AT ANY NODE: without it, and with each of its neighbours; plain functions, no walk.
-/
import Derived.Test.YtnmemefkeehjjabDoorDerMath
namespace Go.Proofs.YtnmemefkeehjjabDoor
set_option linter.unusedVariables false
set_option linter.unusedSimpArgs false
open Go.RowKit
set_option maxRecDepth 100000

/-- A sum over a set's nodes that are neighbours: one node apart. -/
theorem sum_apart (c : Nat → Bool) (h : Nat → Nat) (v : Fin 8) : sumN (fun u => if c u = true then h u else 0) 8 = (if c v.val = true then h v.val else 0) + sumN (fun u => if c u = true ∧ u ≠ v.val then h u else 0) 8 := by
  have hp := sumN_point (if c v.val = true then h v.val else 0) v
  rw [← hp, ← sumN_add]
  refine sumN_congr 8 fun u hu => ?_
  by_cases e : u = v.val
  · subst e; simp
  · simp [e]

theorem nums_at {f : Nat → Nat} (hf : SymB f) : ∀ s, s < 256 → ∀ v : Fin 8, s.testBit v.val = true → (f v.val).testBit v.val = false → ∀ j, nums f s (j + 1) = nums f (wo s v.val) (j + 1) + sumN (fun w => if (f v.val &&& wo s v.val).testBit w = true then nums f (wo (wo s v.val) w) j else 0) 8 := by
  intro s
  induction s using Nat.strongRecOn with
  | _ s ih =>
    intro hs v hv hi j
    have h0 := nz_bit hv
    obtain ⟨l, hl⟩ : ∃ l, low s = l := ⟨_, rfl⟩
    have hr : rst s = wo s l.val := by unfold rst; rw [hl]
    have ht : ∀ F, tieOf f F = f (low F).val &&& rst F := fun F => rfl
    by_cases hvl : v = l
    · subst hvl
      rw [nums_sum hs h0, ht, hl, hr]
    have hlt : wo s l.val < s := by have := rst_lt hs h0; rwa [hr] at this
    have hr256 : wo s l.val < 256 := wo_256 hs
    have hsl : s.testBit l.val = true := by rw [← hl]; exact low_bit hs h0
    obtain ⟨r, hre⟩ : ∃ r, wo s l.val = r := ⟨_, rfl⟩
    have hrv : r.testBit v.val = true := by rw [← hre, wo_bit, hv]; simp [hvl]
    have hrl : r.testBit l.val = false := by rw [← hre, wo_bit]; simp
    have lv : low (wo s v.val) = l := by rw [low_wo hs h0 v (by rw [hl]; exact hvl), hl]
    have hsvl : (wo s v.val).testBit l.val = true := by rw [wo_bit, hsl]; simp [Ne.symm hvl]
    have rsv : rst (wo s v.val) = wo r v.val := by unfold rst; rw [lv, wo_comm, hre]
    have hlv : (f l.val).testBit v.val = (f v.val).testBit l.val := hf l v
    rw [hre] at hr hlt hr256
    have ihr := ih r hlt hr256 v hrv hi j
    rw [nums_sum hs h0, ht, hl, hr, ihr, nums_sum (s := wo s v.val) (wo_256 hs) (nz_bit hsvl), ht, lv, rsv]
    have a1 := sum_apart (fun u => (f l.val &&& r).testBit u) (fun u => nums f (wo r u) j) v
    have a2 := sum_apart (fun w => (f v.val &&& wo s v.val).testBit w) (fun w => nums f (wo (wo s v.val) w) j) l
    rw [a1, a2]
    have e1 : (f l.val &&& r).testBit v.val = (f v.val).testBit l.val := by rw [Nat.testBit_and, hrv, hlv, Bool.and_true]
    have e2 : (f v.val &&& wo s v.val).testBit l.val = (f v.val).testBit l.val := by rw [Nat.testBit_and, hsvl, Bool.and_true]
    have e3 : wo (wo s v.val) l.val = wo r v.val := by rw [wo_comm, hre]
    rw [e1, e2, e3]
    have hw2 : ∀ w, w < 8 → ((f v.val &&& wo s v.val).testBit w = true ∧ w ≠ l.val ↔ (f v.val &&& wo r v.val).testBit w = true) := fun w hw => by
      have b1 := wo_bit s v ⟨w, hw⟩
      have b2 := wo_bit (wo s l.val) v ⟨w, hw⟩
      have b3 := wo_bit s l ⟨w, hw⟩
      simp only at b1 b2 b3
      rw [Nat.testBit_and, Nat.testBit_and, b1, ← hre, b2, b3]
      simp [Fin.ext_iff]
      constructor
      · rintro ⟨⟨x1, x2, x3⟩, x4⟩; exact ⟨x1, ⟨x2, x4⟩, x3⟩
      · rintro ⟨x1, ⟨x2, x4⟩, x3⟩; exact ⟨⟨x1, x2, x3⟩, x4⟩
    have hu2 : ∀ u, u < 8 → ((f l.val &&& r).testBit u = true ∧ u ≠ v.val ↔ (f l.val &&& wo r v.val).testBit u = true) := fun u hu => by
      have b2 := wo_bit r v ⟨u, hu⟩
      simp only at b2
      rw [Nat.testBit_and, Nat.testBit_and, b2]
      simp [Fin.ext_iff, and_assoc]
    have s1 : sumN (fun u => if (f l.val &&& r).testBit u = true ∧ u ≠ v.val then nums f (wo r u) j else 0) 8 = sumN (fun u => if (f l.val &&& wo r v.val).testBit u = true then nums f (wo r u) j else 0) 8 := sumN_congr 8 fun u hu => by simp only [hu2 u hu]
    have s2 : sumN (fun w => if (f v.val &&& wo s v.val).testBit w = true ∧ w ≠ l.val then nums f (wo (wo s v.val) w) j else 0) 8 = sumN (fun w => if (f v.val &&& wo r v.val).testBit w = true then nums f (wo (wo s v.val) w) j else 0) 8 := sumN_congr 8 fun w hw => by simp only [hw2 w hw]
    rw [s1, s2]
    have key : sumN (fun w => if (f v.val &&& wo r v.val).testBit w = true then nums f (wo (wo r v.val) w) j else 0) 8 + sumN (fun u => if (f l.val &&& wo r v.val).testBit u = true then nums f (wo r u) j else 0) 8
        = sumN (fun u => if (f l.val &&& wo r v.val).testBit u = true then nums f (wo (wo r v.val) u) j else 0) 8 + sumN (fun w => if (f v.val &&& wo r v.val).testBit w = true then nums f (wo (wo s v.val) w) j else 0) 8 := by
      cases j with
      | zero =>
        have z1 : ∀ (g : Nat → Nat) (k : Nat → Nat), (∀ w, g w < 256) → sumN (fun w => if (k w).testBit w = true then nums f (g w) 0 else 0) 8 = sumN (fun w => if (k w).testBit w = true then 1 else 0) 8 := fun g k hg => sumN_congr 8 fun w _ => by rw [nums_none' (hg w)]
        rw [z1 (fun w => wo (wo r v.val) w) (fun _ => f v.val &&& wo r v.val) (fun w => wo_256 (wo_256 hr256)), z1 (fun u => wo r u) (fun _ => f l.val &&& wo r v.val) (fun w => wo_256 hr256),
          z1 (fun u => wo (wo r v.val) u) (fun _ => f l.val &&& wo r v.val) (fun w => wo_256 (wo_256 hr256)), z1 (fun w => wo (wo s v.val) w) (fun _ => f v.val &&& wo r v.val) (fun w => wo_256 (wo_256 hs))]
        omega
      | succ i =>
        obtain ⟨p, hp⟩ : ∃ p, wo r v.val = p := ⟨_, rfl⟩
        have hp256 : p < 256 := by rw [← hp]; exact wo_256 hr256
        have k1 : sumN (fun u => if (f l.val &&& p).testBit u = true then nums f (wo r u) (i + 1) else 0) 8 = sumN (fun u => (if (f l.val &&& p).testBit u = true then nums f (wo p u) (i + 1) else 0) + sumN (fun w => if (f l.val &&& p).testBit u = true ∧ (f v.val &&& p).testBit w = true ∧ w ≠ u then nums f (wo (wo p u) w) i else 0) 8) 8 := by
          refine sumN_congr 8 fun u hu => ?_
          cases hb : (f l.val &&& p).testBit u with
          | false =>
            have : sumN (fun w => if false = true ∧ (f v.val &&& p).testBit w = true ∧ w ≠ u then nums f (wo (wo p u) w) i else 0) 8 = sumN (fun _ => 0) 8 := sumN_congr 8 fun w _ => by simp
            rw [this, sumN_zero]; simp
          | true =>
            have hpu : p.testBit u = true := by rw [Nat.testBit_and, Bool.and_eq_true] at hb; exact hb.2
            have hpu' := hpu
            have b2 := wo_bit r v ⟨u, hu⟩
            simp only at b2
            rw [← hp, b2, Bool.and_eq_true, decide_eq_true_eq] at hpu'
            have hru : (wo r u).testBit v.val = true := by
              have := wo_bit r ⟨u, hu⟩ v
              simp only at this
              rw [this, hrv]
              simpa using fun e => hpu'.2 e.symm
            have hle := wo_le r u
            rw [if_pos rfl, if_pos rfl, ih (wo r u) (by omega) (wo_256 hr256) v hru hi i, wo_comm r u v.val, hp]
            congr 1
            refine sumN_congr 8 fun w hw => ?_
            have b3 := wo_bit p ⟨u, hu⟩ ⟨w, hw⟩
            simp only at b3
            rw [Nat.testBit_and, Nat.testBit_and, b3]
            by_cases c1 : (f v.val).testBit w = true <;> by_cases c2 : p.testBit w = true <;> by_cases c3 : w = u <;> simp [c1, c2, c3]
        have k2 : sumN (fun w => if (f v.val &&& p).testBit w = true then nums f (wo (wo s v.val) w) (i + 1) else 0) 8 = sumN (fun w => (if (f v.val &&& p).testBit w = true then nums f (wo p w) (i + 1) else 0) + sumN (fun u => if (f l.val &&& p).testBit u = true ∧ (f v.val &&& p).testBit w = true ∧ w ≠ u then nums f (wo (wo p u) w) i else 0) 8) 8 := by
          refine sumN_congr 8 fun w hw => ?_
          cases hb : (f v.val &&& p).testBit w with
          | false =>
            have : sumN (fun u => if (f l.val &&& p).testBit u = true ∧ false = true ∧ w ≠ u then nums f (wo (wo p u) w) i else 0) 8 = sumN (fun _ => 0) 8 := sumN_congr 8 fun u _ => by simp
            rw [this, sumN_zero]; simp
          | true =>
            have hpw : p.testBit w = true := by rw [Nat.testBit_and, Bool.and_eq_true] at hb; exact hb.2
            have hwl : w ≠ l.val := by
              have b2 := wo_bit r v l
              rw [hp, hrl, Bool.false_and] at b2
              intro e; subst e; rw [b2] at hpw; cases hpw
            have hlw : (wo (wo s v.val) w).testBit l.val = true := by
              have := wo_bit (wo s v.val) ⟨w, hw⟩ l
              simp only at this
              rw [this, hsvl]
              simpa [Fin.ext_iff] using fun e => hwl e.symm
            have lw : low (wo (wo s v.val) w) = l := by
              have := low_wo (wo_256 hs) (nz_bit hsvl) ⟨w, hw⟩ (by rw [lv]; intro e; exact hwl (by rw [← e]))
              simp only at this
              rw [this, lv]
            have rw' : rst (wo (wo s v.val) w) = wo p w := by unfold rst; rw [lw, wo_comm, e3, hp]
            rw [if_pos rfl, if_pos rfl, nums_sum (wo_256 (wo_256 hs)) (nz_bit hlw), ht, lw, rw']
            congr 1
            refine sumN_congr 8 fun u hu => ?_
            have b3 := wo_bit p ⟨w, hw⟩ ⟨u, hu⟩
            simp only at b3
            rw [Nat.testBit_and, Nat.testBit_and, b3, wo_comm p w u]
            by_cases c4 : w = u
            · subst c4; simp
            · have c3 : ¬ u = w := fun e => c4 e.symm
              by_cases c1 : (f l.val).testBit u = true <;> by_cases c2 : p.testBit u = true <;> simp [c1, c2, c3, c4]
        rw [hp, k1, k2, sumN_add, sumN_add]
        have k3 := sumN_swap (fun u w => if (f l.val &&& p).testBit u = true ∧ (f v.val &&& p).testBit w = true ∧ w ≠ u then nums f (wo (wo p u) w) i else 0) 8 8
        rw [k3]
        omega
    omega

end Go.Proofs.YtnmemefkeehjjabDoor
