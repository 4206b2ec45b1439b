/-
  WHAT BOTH SAY OF EDGE COVERS: plain functions, no walk.
-/
import Derived.Test.YtcklinoiaiilgabDoorGallai
import Derived.Test.YtcklinoiaiilgabDoorMPoly
import Derived.Test.YtcklinoiaiilgabDoorPow
namespace Go.Proofs.YtcklinoiaiilgabDoor
set_option linter.unusedVariables false
set_option linter.unusedSimpArgs false
open Go.RowKit

/-- Whether a node has no neighbours. -/
def loneB (n : Nat) (f : Nat → Nat) : Bool := (List.range n).any fun v => decide (f v = 0)
theorem loneB_yes {n : Nat} {f : Nat → Nat} {v : Nat} (hv : v < n) (h : f v = 0) : loneB n f = true := by
  unfold loneB; rw [List.any_eq_true]; exact ⟨v, List.mem_range.2 hv, by simp [h]⟩
theorem loneB_no {n : Nat} {f : Nat → Nat} (h : ∀ v, v < n → f v ≠ 0) : loneB n f = false := by
  unfold loneB; rw [List.any_eq_false]; intro v hv; simp [h v (List.mem_range.1 hv)]
theorem loneB_at {n : Nat} {f : Nat → Nat} (h : loneB n f = false) {v : Nat} (hv : v < n) : f v ≠ 0 := by
  unfold loneB at h; rw [List.any_eq_false] at h; simpa using h v (List.mem_range.2 hv)

def ceOk (xs : List Int) : Bool := gIn xs && !loneB xs.length (gfun xs)
def ceOf (xs : List Int) : Int := if ceOk xs = true then ((few (gfun xs) (2 ^ xs.length - 1) : Nat) : Int) else 0
theorem ceOf_eq {xs : List Int} (h : ceOk xs = true) : ceOf xs = (xs.length : Int) - ((gr (gfun xs) (2 ^ xs.length - 1) : Nat) : Int) := by
  have hg : gIn xs = true := by unfold ceOk at h; rw [Bool.and_eq_true] at h; exact h.1
  obtain ⟨h1, h8, _⟩ := gIn_parts hg
  unfold ceOf
  rw [if_pos h]
  have hs := all256 h8
  have h2 := few_eq (f := gfun xs) hs
  have h3 := all_size ⟨xs.length, by omega⟩
  simp only at h3
  omega

end Go.Proofs.YtcklinoiaiilgabDoor
