/-
  A skew table is even exactly if all its numbers are 0.
-/
import Derived.Test.YtjhjfopokiaiiabDoorSpecTEven
import Derived.Test.YtjhjfopokiaiiabDoorSpecTSkew
namespace Go.Proofs.YtjhjfopokiaiiabDoor
set_option linter.unusedVariables false
set_option linter.unusedSimpArgs false
open Go.RowKit

/-- All rows ahead of row i are 0, and the first k numbers of row i. -/
def allz (F : Nat → Int) (n i k : Nat) : Bool := ((List.range i).all fun a => (List.range n).all fun c => F (6 * a + c) == 0) && (List.range k).all fun c => F (6 * i + c) == 0
theorem allz_zero (F : Nat → Int) (n : Nat) : allz F n 0 0 = true := rfl
theorem allz_step (F : Nat → Int) (n i k : Nat) : allz F n i (k + 1) = (allz F n i k && F (6 * i + k) == 0) := by
  unfold allz
  rw [List.range_succ, List.all_append, Bool.and_assoc]
  simp
theorem allz_row (F : Nat → Int) (n i : Nat) : allz F n i n = allz F n (i + 1) 0 := by
  unfold allz
  rw [List.range_succ, List.all_append]
  simp
theorem allz_iff (F : Nat → Int) (n : Nat) : allz F n n 0 = true ↔ ∀ a, a < n → ∀ c, c < n → F (6 * a + c) = 0 := by
  unfold allz
  rw [Bool.and_eq_true, List.all_eq_true]
  constructor
  · rintro ⟨h, -⟩ a ha c hc
    have := List.all_eq_true.1 (h a (List.mem_range.2 ha)) c (List.mem_range.2 hc)
    rwa [beq_iff_eq] at this
  · intro h
    refine ⟨fun a ha => List.all_eq_true.2 fun c hc => ?_, by simp⟩
    rw [beq_iff_eq]
    exact h a (List.mem_range.1 ha) c (List.mem_range.1 hc)
theorem even_zero {xss : List (List Int)} (h : skewOf xss = true) : evenOf xss = allz (flat xss) xss.length xss.length 0 := by
  unfold skewOf at h
  rw [Bool.and_eq_true] at h
  obtain ⟨ht, hs⟩ := h
  have hs := (turnB_iff _ _ _).1 hs
  unfold evenOf
  rw [ht, Bool.true_and, Bool.eq_iff_iff, turnB_iff, allz_iff]
  constructor
  · intro he a ha c hc
    by_cases hca : c ≤ a
    · have h1 := ((okAt_iff _ _ _ _).1 (hs a ha c hca)).1
      have h2 := ((okAt_iff _ _ _ _).1 (he a ha c hca)).1
      omega
    · have h1 := ((okAt_iff _ _ _ _).1 (hs c hc a (by omega))).1
      have h2 := ((okAt_iff _ _ _ _).1 (he c hc a (by omega))).1
      omega
  · intro hz i hi k hk
    rw [okAt_iff]
    have h1 := hz i hi k (by omega)
    have h2 := hz k (by omega) i hi
    exact ⟨by omega, fun _ => h1⟩

end Go.Proofs.YtjhjfopokiaiiabDoor
