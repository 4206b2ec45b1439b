/-
  LINKS TAKEN ONE BY ONE, and lists of numbers made by them: plain functions, no walk.
-/
import Derived.Test.YtjijkgmeddeihaaDoorNums
namespace Go.Proofs.YtjijkgmeddeihaaDoor
set_option linter.unusedVariables false
set_option linter.unusedSimpArgs false
open Go.RowKit

/-- The nodes of a set below a number. -/
def upto (m b : Nat) : List (Fin 8) := (bitsOf m).filter fun j => decide (j.val < b)
theorem upto_step_all : ∀ (m : Fin 256) (b : Fin 8), upto m.val (b.val + 1) = if m.val.testBit b.val = true then upto m.val b.val ++ [b] else upto m.val b.val := by decide +kernel
theorem upto_yes {m b : Nat} (hm : m < 256) (hb : b < 8) (h : m.testBit b = true) : upto m (b + 1) = upto m b ++ [⟨b, hb⟩] := by
  have := upto_step_all ⟨m, hm⟩ ⟨b, hb⟩
  simpa [h] using this
theorem upto_no {m b : Nat} (hm : m < 256) (hb : b < 8) (h : m.testBit b = false) : upto m (b + 1) = upto m b := by
  have := upto_step_all ⟨m, hm⟩ ⟨b, hb⟩
  simpa [h] using this
theorem upto_all_all : ∀ (m : Fin 256) (b : Fin 9), m.val < 2 ^ b.val → upto m.val b.val = bitsOf m.val := by decide +kernel
theorem upto_all {m b : Nat} (hm : m < 256) (hb : b ≤ 8) (h : m < 2 ^ b) : upto m b = bitsOf m := upto_all_all ⟨m, hm⟩ ⟨b, by omega⟩ h
/-- Nothing that is left lies below the lowest node, or is it. -/
theorem rst_upto_all : ∀ s : Fin 256, s.val ≠ 0 → ∀ j : Fin 8, j.val ≤ (low s.val).val → (rst s.val).testBit j.val = false := by decide +kernel
theorem tie_upto {f : Nat → Nat} {s : Nat} (hs : s < 256) (h0 : s ≠ 0) : upto (tieOf f s) ((low s).val + 1) = [] := by
  unfold upto
  rw [List.filter_eq_nil_iff]
  intro j hj
  have hb := (and_bit hj).2
  have := rst_upto_all ⟨s, hs⟩ h0 j
  simp only [decide_eq_true_eq]
  intro hlt
  rw [this (by simp only; omega)] at hb
  cases hb
theorem tie_bit {f : Nat → Nat} {s b : Nat} : (tieOf f s).testBit b = ((f (low s).val).testBit b && (rst s).testBit b) := Nat.testBit_and _ _ _
theorem tie_lt {f : Nat → Nat} {s : Nat} (hs : s < 256) : tieOf f s < 256 := Nat.lt_of_le_of_lt Nat.and_le_right (Nat.lt_of_le_of_lt (wo_le _ _) hs)
theorem tie_pow {f : Nat → Nat} {s n : Nat} (hs : s < 2 ^ n) : tieOf f s < 2 ^ n := Nat.lt_of_le_of_lt Nat.and_le_right (Nat.lt_of_le_of_lt (wo_le _ _) hs)
theorem low_least_all : ∀ (s : Fin 256) (j : Fin 8), j.val < (low s.val).val → s.val.testBit j.val = false := by decide +kernel

/-- A list of numbers on the way: behind the first few links. -/
def OnWay (f : Nat → Nat) (s : Nat) (l : List (Fin 8)) (p : List Int) : Prop := Pos p ∧ p.length ≤ 5 ∧ ∀ k, co p k = ((nums f (rst s) k + tied f s l k : Nat) : Int)

theorem numL_pos_aux {p : List Int} (h1 : 1 ≤ p.length) (h0 : ∀ i, 0 ≤ co p i) (he : ends p = true) : Pos p := by
  refine ⟨h1, h0, ?_⟩
  unfold ends at he
  simp only [decide_eq_true_eq] at he
  have := h0 (p.length - 1)
  unfold co at this ⊢
  rcases he with rfl | he
  · simp at h1
  · omega
theorem numL_pos {f : Nat → Nat} {s : Nat} (hs : s < 256) : Pos (numL f s) := by
  have h0 : ∀ i, 0 ≤ co (numL f s) i := fun i => by rw [co_numL hs]; omega
  refine numL_pos_aux ?_ h0 (ends_trim _)
  by_cases h : (numL f s).length = 0
  · have hc := co_numL (f := f) hs 0
    rw [co_out (by omega), nums_none' hs] at hc
    cases hc
  · omega

theorem onway_start {f : Nat → Nat} {s : Nat} (hs : s < 256) : OnWay f s [] (numL f (rst s)) := by
  have hr : rst s < 256 := Nat.lt_of_le_of_lt (wo_le _ _) hs
  exact ⟨numL_pos hr, numL_len _ _, fun k => by rw [co_numL hr, tied_nil, Nat.add_zero]⟩
theorem co_cons (p : List Int) (k : Nat) : co (0 :: p) k = if k = 0 then 0 else co p (k - 1) := by
  cases k with
  | zero => simp [co]
  | succ k => simp [co]
theorem onway_step {f : Nat → Nat} {s : Nat} (hs : s < 256) (h0 : s ≠ 0) {l : List (Fin 8)} {p : List Int} (h : OnWay f s l p) (x : Fin 8) (suf : List (Fin 8)) (hx : l ++ x :: suf = bitsOf (tieOf f s)) :
    OnWay f s (l ++ [x]) (addL p (0 :: numL f (wo (rst s) x.val))) := by
  obtain ⟨hp, hl, hc⟩ := h
  have hr : rst s < 256 := Nat.lt_of_le_of_lt (wo_le _ _) hs
  have hw : wo (rst s) x.val < 256 := Nat.lt_of_le_of_lt (wo_le _ _) hr
  have hco : ∀ k, co (addL p (0 :: numL f (wo (rst s) x.val))) k = ((nums f (rst s) k + tied f s (l ++ [x]) k : Nat) : Int) := by
    intro k
    rw [co_addL, hc, co_cons, tied_snoc]
    split
    · simp
    · rw [co_numL hw]; push_cast; omega
  have hpos := hp.add (numL_pos (f := f) hw).cons
  refine ⟨hpos, ?_, hco⟩
  by_cases hle : (addL p (0 :: numL f (wo (rst s) x.val))).length ≤ 5
  · exact hle
  · exfalso
    have h1 := hpos.2.2
    rw [hco] at h1
    have h2 : nums f s ((addL p (0 :: numL f (wo (rst s) x.val))).length - 1) = 0 := nums_far' hs (by omega)
    rw [nums_step hs h0, ← hx] at h2
    have h3 := tied_le f s (l ++ [x]) suf ((addL p (0 :: numL f (wo (rst s) x.val))).length - 1)
    rw [List.append_assoc, List.singleton_append] at h3
    omega
theorem onway_end {f : Nat → Nat} {s : Nat} (hs : s < 256) (h0 : s ≠ 0) {p : List Int} (h : OnWay f s (bitsOf (tieOf f s)) p) : p = numL f s :=
  h.1.numL hs fun k => by rw [h.2.2, nums_step hs h0]
theorem onway_within {f : Nat → Nat} {s : Nat} (hs : s < 256) (h0 : s ≠ 0) {l suf : List (Fin 8)} {p : List Int} (h : OnWay f s l p) (hx : l ++ suf = bitsOf (tieOf f s)) : within 1000000000000 p = true := by
  refine within_of_co fun k => ?_
  rw [h.2.2]
  have h1 := nums_small (f := f) hs k
  rw [nums_step hs h0, ← hx] at h1
  have h2 := tied_le f s l suf k
  omega
theorem numL_within {f : Nat → Nat} {s : Nat} (hs : s < 256) : within 1000000000000 (0 :: numL f s) = true := by
  refine within_of_co fun k => ?_
  rw [co_cons]
  split
  · omega
  · rw [co_numL hs]
    have := nums_small (f := f) hs (k - 1)
    omega
theorem upto_split {m b : Nat} (hm : m < 256) (hb : b ≤ 8) : ∃ suf, upto m b ++ suf = bitsOf m := by
  have h : ∀ (m : Fin 256) (b : Fin 9), upto m.val b.val ++ (bitsOf m.val).filter (fun j => decide (¬ j.val < b.val)) = bitsOf m.val := by decide +kernel
  exact ⟨_, h ⟨m, hm⟩ ⟨b, by omega⟩⟩

end Go.Proofs.YtjijkgmeddeihaaDoor
