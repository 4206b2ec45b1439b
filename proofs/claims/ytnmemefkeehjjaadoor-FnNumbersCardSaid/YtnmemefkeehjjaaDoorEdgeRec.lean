/-
  MATCHING NUMBERS AT AN EDGE: without it, and with it; plain functions, no walk.
-/
import Derived.Test.YtnmemefkeehjjaaDoorRelabel
import Derived.Test.YtnmemefkeehjjaaDoorBitSum
import Derived.Test.YtnmemefkeehjjaaDoorCutMath
namespace Go.Proofs.YtnmemefkeehjjaaDoor
set_option linter.unusedVariables false
set_option linter.unusedSimpArgs false
open Go.RowKit
set_option maxRecDepth 100000

theorem low_wo_all : ∀ (s : Fin 256) (v : Fin 8), s.val ≠ 0 → v ≠ low s.val → low (wo s.val v.val) = low s.val := by decide +kernel
theorem low_wo {s : Nat} (hs : s < 256) (h0 : s ≠ 0) (v : Fin 8) (h : v ≠ low s) : low (wo s v.val) = low s := low_wo_all ⟨s, hs⟩ v h0 h
theorem eq_bits {x y : Nat} (hx : x < 256) (hy : y < 256) (h : ∀ j : Fin 8, x.testBit j.val = y.testBit j.val) : x = y := by
  apply Nat.eq_of_testBit_eq
  intro j
  by_cases hj : j < 8
  · exact h ⟨j, hj⟩
  · rw [bit8 hx (by omega), bit8 hy (by omega)]
theorem nz_bit {s : Nat} {v : Fin 8} (h : s.testBit v.val = true) : s ≠ 0 := fun e => by subst e; simp at h

theorem nums_sum {f : Nat → Nat} {s : Nat} (hs : s < 256) (h0 : s ≠ 0) (j : Nat) : nums f s (j + 1) = nums f (rst s) (j + 1) + sumN (fun w => if (tieOf f s).testBit w = true then nums f (wo (rst s) w) j else 0) 8 := by
  rw [nums_step hs h0]
  congr 1
  unfold tied
  rw [if_neg (by omega)]
  exact bits_to (tieOf f s) (fun w => nums f (wo (rst s) w) j)
theorem sumN_point (c : Nat) (b : Fin 8) : sumN (fun w => if w = b.val then c else 0) 8 = c := by
  have e : ∀ w, (if w = b.val then c else 0) = (if w = b.val then 1 else 0) * c := fun w => by split <;> simp
  have h : ∀ b : Fin 8, sumN (fun w => if w = b.val then 1 else 0) 8 = 1 := by decide
  have m : ∀ (g : Nat → Nat) n, sumN (fun w => g w * c) n = sumN g n * c := by
    intro g n
    induction n with
    | zero => simp [sumN]
    | succ n ih => rw [sumN_succ, sumN_succ, ih, Nat.add_mul]
  rw [sumN_congr 8 (fun w _ => e w), m, h, Nat.one_mul]

/-- Graphs that are the same within a set have the same matchings of it. -/
theorem nums_near {F G : Nat → Nat} : ∀ s, s < 256 → (∀ i : Fin 8, s.testBit i.val = true → F i.val &&& s = G i.val &&& s) → ∀ k, nums F s k = nums G s k := by
  intro s
  induction s using Nat.strongRecOn with
  | _ s ih =>
    intro hs h k
    by_cases h0 : s = 0
    · subst h0; rw [nums_zero, nums_zero]
    · have hr := rst_lt hs h0
      have hsub : ∀ (t : Nat) (v : Fin 8), (∀ i : Fin 8, t.testBit i.val = true → F i.val &&& t = G i.val &&& t) → ∀ i : Fin 8, (wo t v.val).testBit i.val = true → F i.val &&& wo t v.val = G i.val &&& wo t v.val := fun t v ht i hi => by
        have := ht i (sub8_wo t v i hi)
        unfold wo
        rw [← Nat.and_assoc, ← Nat.and_assoc, this]
      have ht : tieOf F s = tieOf G s := by
        have := h (low s) (low_bit hs h0)
        unfold tieOf rst wo
        rw [← Nat.and_assoc, ← Nat.and_assoc, this]
      rw [nums_step hs h0, nums_step hs h0, ih (rst s) hr (by omega) (hsub s (low s) h), ht]
      congr 1
      unfold tied
      split
      · rfl
      · congr 1
        apply List.map_congr_left
        intro w _
        have hle := wo_le (rst s) w.val
        exact ih (wo (rst s) w.val) (by omega) (by omega) (hsub (rst s) w (hsub s (low s) h)) _

/-- A graph, and it without an edge. -/
structure CutP (f g : Nat → Nat) (a b : Fin 8) : Prop where
  ne : a ≠ b
  fl : ∀ i, f i < 256
  gl : ∀ i, g i < 256
  bit : ∀ i j : Fin 8, (g i.val).testBit j.val = ((f i.val).testBit j.val && !decide (i = a ∧ j = b) && !decide (i = b ∧ j = a))
  ab : (f a.val).testBit b.val = true
  ba : (f b.val).testBit a.val = true
theorem CutP.swap {f g : Nat → Nat} {a b : Fin 8} (h : CutP f g a b) : CutP f g b a :=
  ⟨h.ne.symm, h.fl, h.gl, fun i j => by rw [h.bit, Bool.and_right_comm], h.ba, h.ab⟩
theorem CutP.near {f g : Nat → Nat} {a b : Fin 8} (h : CutP f g a b) {s : Nat} (hs : s < 256) (hm : s.testBit a.val = false ∨ s.testBit b.val = false) (k : Nat) : nums f s k = nums g s k := by
  refine nums_near s hs (fun i hi => eq_bits (Nat.lt_of_le_of_lt Nat.and_le_right hs) (Nat.lt_of_le_of_lt Nat.and_le_right hs) (fun j => ?_)) k
  rw [Nat.testBit_and, Nat.testBit_and, h.bit]
  cases hj : s.testBit j.val with
  | false => simp
  | true =>
    rcases hm with hm | hm
    · have h1 : i ≠ a := fun e => by subst e; rw [hi] at hm; cases hm
      have h2 : j ≠ a := fun e => by subst e; rw [hj] at hm; cases hm
      simp [h1, h2]
    · have h1 : i ≠ b := fun e => by subst e; rw [hi] at hm; cases hm
      have h2 : j ≠ b := fun e => by subst e; rw [hj] at hm; cases hm
      simp [h1, h2]
theorem CutP.least {f g : Nat → Nat} {a b : Fin 8} (h : CutP f g a b) {s : Nat} (hs : s < 256) (ha : s.testBit a.val = true) (hl : a = low s) (hb : s.testBit b.val = true) (j : Nat) : nums f s (j + 1) = nums g s (j + 1) + nums f (wo (wo s a.val) b.val) j := by
  have h0 := nz_bit ha
  have hr : rst s = wo s a.val := by unfold rst; rw [← hl]
  have hr256 : wo s a.val < 256 := wo_256 hs
  have hra : (wo s a.val).testBit a.val = false := by rw [wo_bit]; simp
  have hrb : (wo s a.val).testBit b.val = true := by rw [wo_bit, hb]; simp [h.ne.symm]
  rw [nums_sum hs h0, nums_sum hs h0, hr, h.near hr256 (.inl hra), Nat.add_assoc]
  congr 1
  have hp := sumN_point (nums f (wo (wo s a.val) b.val) j) b
  rw [← hp, ← sumN_add]
  refine sumN_congr 8 fun w hw => ?_
  have et : ∀ F : Nat → Nat, (tieOf F s).testBit w = ((F a.val).testBit w && (wo s a.val).testBit w) := fun F => by
    unfold tieOf; rw [hr, ← hl, Nat.testBit_and]
  have eb := h.bit a ⟨w, hw⟩
  have ew := wo_bit (wo s a.val) ⟨w, hw⟩ a
  simp only at eb ew
  rw [et, et, eb]
  by_cases hwb : w = b.val
  · subst hwb
    rw [h.ab, hrb, if_pos rfl]
    simp
  · have hwb2 : (⟨w, hw⟩ : Fin 8) ≠ b := fun e => hwb (by rw [← e])
    rw [if_neg hwb, Nat.add_zero, h.near (wo_256 hr256) (.inl (by rw [ew, hra]; rfl))]
    simp [hwb2, h.ne]
theorem CutP.both {f g : Nat → Nat} {a b : Fin 8} (h : CutP f g a b) : ∀ s, s < 256 → s.testBit a.val = true → s.testBit b.val = true → ∀ j, nums f s (j + 1) = nums g s (j + 1) + nums f (wo (wo s a.val) b.val) j := by
  intro s
  induction s using Nat.strongRecOn with
  | _ s ih =>
    intro hs ha hb j
    have h0 := nz_bit ha
    by_cases la : a = low s
    · exact h.least hs ha la hb j
    by_cases lb : b = low s
    · rw [wo_comm]; exact h.swap.least hs hb lb ha j
    obtain ⟨l, hl⟩ : ∃ l, low s = l := ⟨_, rfl⟩
    have hr : rst s = wo s l.val := by unfold rst; rw [hl]
    have hlt : wo s l.val < s := by have := rst_lt hs h0; rwa [hr] at this
    have hr256 : wo s l.val < 256 := wo_256 hs
    have hsl : s.testBit l.val = true := by rw [← hl]; exact low_bit hs h0
    rw [hl] at la lb
    have hra : (wo s l.val).testBit a.val = true := by rw [wo_bit, ha]; simp [la]
    have hrb : (wo s l.val).testBit b.val = true := by rw [wo_bit, hb]; simp [lb]
    have hsa : (wo s a.val).testBit l.val = true := by rw [wo_bit, hsl]; simp [Ne.symm la]
    have hsab : (wo (wo s a.val) b.val).testBit l.val = true := by rw [wo_bit, hsa]; simp [Ne.symm lb]
    have la' : low (wo s a.val) = l := by rw [low_wo hs h0 a (by rw [hl]; exact la), hl]
    have l' : low (wo (wo s a.val) b.val) = l := by rw [low_wo (wo_256 hs) (nz_bit hsa) b (by rw [la']; exact lb), la']
    have hr' : rst (wo (wo s a.val) b.val) = wo (wo (wo s l.val) a.val) b.val := by
      unfold rst; rw [l', wo_comm, wo_comm s a.val, ← wo_comm (wo s l.val)] <;> try rfl
    have et : ∀ (F : Nat → Nat) w, (tieOf F s).testBit w = ((F l.val).testBit w && (wo s l.val).testBit w) := fun F w => by
      unfold tieOf; rw [hr, hl, Nat.testBit_and]
    have et' : ∀ w, (tieOf f (wo (wo s a.val) b.val)).testBit w = ((f l.val).testBit w && (wo (wo (wo s l.val) a.val) b.val).testBit w) := fun w => by
      unfold tieOf; rw [hr', l', Nat.testBit_and]
    have eg : ∀ w, w < 8 → (g l.val).testBit w = (f l.val).testBit w := fun w hw => by
      have := h.bit l ⟨w, hw⟩
      simp only at this
      rw [this]; simp [Ne.symm la, Ne.symm lb]
    rw [nums_sum hs h0, nums_sum (f := g) hs h0, hr, ih _ hlt hr256 hra hrb j]
    cases j with
    | zero =>
      rw [nums_none' (wo_256 (wo_256 hr256)), nums_none' (wo_256 (wo_256 hs))]
      have : sumN (fun w => if (tieOf f s).testBit w = true then nums f (wo (wo s l.val) w) 0 else 0) 8 = sumN (fun w => if (tieOf g s).testBit w = true then nums g (wo (wo s l.val) w) 0 else 0) 8 := sumN_congr 8 fun w hw => by
        rw [et, et, eg w hw, nums_none' (wo_256 hr256), nums_none' (wo_256 hr256)]
      omega
    | succ i =>
      rw [nums_sum (f := f) (s := wo (wo s a.val) b.val) (wo_256 (wo_256 hs)) (nz_bit hsab), hr']
      have : sumN (fun w => if (tieOf f s).testBit w = true then nums f (wo (wo s l.val) w) (i + 1) else 0) 8 = sumN (fun w => if (tieOf g s).testBit w = true then nums g (wo (wo s l.val) w) (i + 1) else 0) 8 + sumN (fun w => if (tieOf f (wo (wo s a.val) b.val)).testBit w = true then nums f (wo (wo (wo (wo s l.val) a.val) b.val) w) i else 0) 8 := by
        rw [← sumN_add]
        refine sumN_congr 8 fun w hw => ?_
        rw [et, et, et', eg w hw]
        have wa := wo_bit (wo s l.val) a ⟨w, hw⟩
        have wb := wo_bit (wo (wo s l.val) a.val) b ⟨w, hw⟩
        have wwa := wo_bit (wo s l.val) ⟨w, hw⟩ a
        have wwb := wo_bit (wo s l.val) ⟨w, hw⟩ b
        simp only at wa wb wwa wwb
        rw [wb, wa]
        by_cases hwa : (⟨w, hw⟩ : Fin 8) = a
        · have hn : (wo (wo s l.val) w).testBit a.val = false := by rw [wwa]; simp [hwa]
          rw [h.near (wo_256 hr256) (.inl hn)]
          simp [hwa]
        by_cases hwb : (⟨w, hw⟩ : Fin 8) = b
        · have hn : (wo (wo s l.val) w).testBit b.val = false := by rw [wwb]; simp [hwb]
          rw [h.near (wo_256 hr256) (.inr hn)]
          simp [hwb]
        cases hT : ((f l.val).testBit w && (wo s l.val).testBit w) with
        | false =>
          rw [Bool.and_eq_false_iff] at hT
          rcases hT with h1 | h1 <;> simp [h1]
        | true =>
          rw [Bool.and_eq_true] at hT
          have h1 : (wo (wo s l.val) w).testBit a.val = true := by rw [wwa, hra]; simp [Ne.symm hwa]
          have h2 : (wo (wo s l.val) w).testBit b.val = true := by rw [wwb, hrb]; simp [Ne.symm hwb]
          have hle := wo_le (wo s l.val) w
          rw [hT.1, hT.2, ih _ (by omega) (wo_256 hr256) h1 h2 i, wo_comm (wo s l.val) w, wo_comm (wo (wo s l.val) a.val) w]
          simp [hwa, hwb]
      omega

end Go.Proofs.YtnmemefkeehjjaaDoor
