/-
  WHICH LISTS ARE GRAPHS: plain functions, no walk.
-/
import Derived.Test.YtjijkgmeddeihaaDoorTz
namespace Go.Proofs.YtjijkgmeddeihaaDoor
set_option linter.unusedVariables false
set_option linter.unusedSimpArgs false
open Go.RowKit

def mutRow (f : Nat → Nat) (a : Nat) : Bool := (bitsOf (f a)).all fun b => (f b.val).testBit a
def mutB (n : Nat) (f : Nat → Nat) : Bool := (List.range n).all fun a => mutRow f a

/-- A number that an int64 holds. -/
def I64 (x : Int) : Prop := -9223372036854775808 ≤ x ∧ x ≤ 9223372036854775807

/-- The sets of a list as numbers. -/
def gfun (xs : List Int) : Nat → Nat := fun i => (xs[i]?.getD 0).toNat
def rowOk (xs : List Int) (i : Nat) : Bool := decide (0 ≤ xs[i]?.getD 0 ∧ xs[i]?.getD 0 < ((2 ^ xs.length : Nat) : Int)) && !(gfun xs i).testBit i
def okTo (xs : List Int) (k : Nat) : Bool := (List.range k).all fun i => rowOk xs i
/-- Is the list a graph? -/
def gIn (xs : List Int) : Bool := decide (1 ≤ xs.length ∧ xs.length ≤ 8) && (okTo xs xs.length && mutB xs.length (gfun xs))

theorem okTo_zero (xs : List Int) : okTo xs 0 = true := rfl
theorem okTo_succ (xs : List Int) (k : Nat) : okTo xs (k + 1) = (okTo xs k && rowOk xs k) := by simp [okTo, List.range_succ]
theorem okTo_at {xs : List Int} {k i : Nat} (h : okTo xs k = true) (hi : i < k) : rowOk xs i = true := List.all_eq_true.1 h i (List.mem_range.2 hi)
theorem okTo_false {xs : List Int} {k i : Nat} (h : rowOk xs i = false) (hi : i < k) : okTo xs k = false := by
  rw [Bool.eq_false_iff]; intro hk; rw [okTo_at hk hi] at h; cases h
theorem gIn_row {xs : List Int} {i : Nat} (h : rowOk xs i = false) (hi : i < xs.length) : gIn xs = false := by simp [gIn, okTo_false h hi]
theorem gIn_size {xs : List Int} (h : xs.length < 1 ∨ 8 < xs.length) : gIn xs = false := by
  have : ¬ (1 ≤ xs.length ∧ xs.length ≤ 8) := by omega
  unfold gIn
  rw [decide_eq_false this]; rfl
theorem gIn_mut {xs : List Int} (h1 : 1 ≤ xs.length) (h8 : xs.length ≤ 8) (h : okTo xs xs.length = true) : gIn xs = mutB xs.length (gfun xs) := by
  unfold gIn
  rw [decide_eq_true ⟨h1, h8⟩, h]; rfl
theorem gfun_far {xs : List Int} {i : Nat} (h : xs.length ≤ i) : gfun xs i = 0 := by simp [gfun, List.getElem?_eq_none h]
theorem gfun_at {xs : List Int} {i : Nat} (h : i < xs.length) : gfun xs i = xs[i].toNat := by simp [gfun, h]
theorem gfun_lt {xs : List Int} (h8 : xs.length ≤ 8) (h : okTo xs xs.length = true) : ∀ i, gfun xs i < 256 := by
  intro i
  by_cases hi : i < xs.length
  · have h1 := okTo_at h hi
    have hp := pow8_le (v := xs.length) (by omega)
    simp only [rowOk, Bool.and_eq_true, decide_eq_true_eq] at h1
    unfold gfun
    omega
  · rw [gfun_far (by omega)]; decide
theorem gIn_parts {xs : List Int} (h : gIn xs = true) : 1 ≤ xs.length ∧ xs.length ≤ 8 ∧ okTo xs xs.length = true := by
  unfold gIn at h
  simp only [Bool.and_eq_true, decide_eq_true_eq] at h
  exact ⟨h.1.1, h.1.2, h.2.1⟩

/-- The sets that were read so far. -/
def part (xs : List Int) (k : Nat) : Nat → Nat := fun i => if i < k then gfun xs i else 0
theorem part_zero (xs : List Int) : part xs 0 = fun _ => 0 := by funext i; simp [part]
theorem part_lt {xs : List Int} {k : Nat} (h8 : xs.length ≤ 8) (hk : k ≤ xs.length) (h : okTo xs k = true) : ∀ i, part xs k i < 256 := by
  intro i
  unfold part
  split
  · rename_i hi
    have h1 := okTo_at h hi
    have hp := pow8_le (v := xs.length) (by omega)
    simp only [rowOk, Bool.and_eq_true, decide_eq_true_eq] at h1
    unfold gfun
    omega
  · decide

end Go.Proofs.YtjijkgmeddeihaaDoor
