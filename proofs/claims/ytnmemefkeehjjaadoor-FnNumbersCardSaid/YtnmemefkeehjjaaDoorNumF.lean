/-
  A LIST OF MATCHING NUMBERS, and a first row read; plain functions, no walk.
-/
import Derived.Test.YtnmemefkeehjjaaDoorEdgeFacts
import Derived.Test.YtnmemefkeehjjaaDoorCore1
namespace Go.Proofs.YtnmemefkeehjjaaDoor
set_option linter.unusedVariables false
set_option linter.unusedSimpArgs false
open Go.RowKit
set_option maxRecDepth 100000

/-- What a list of matching numbers is like. -/
structure NumF (l : List Int) (p : Nat → Nat) : Prop where
  one : 1 ≤ l.length
  five : l.length ≤ 5
  is : ∀ k (h : k < l.length), l[k] = (p k : Int)
  far : ∀ k, l.length ≤ k → p k = 0
  zero : p 0 = 1
  small : ∀ k, p k ≤ 43046721
theorem numF_of {f : Nat → Nat} {s : Nat} (hs : s < 256) : NumF (numL f s) (nums f s) := by
  have hl := gr_len (f := f) hs
  refine ⟨by omega, numL_len f s, fun k h => ?_, fun k h => gr_top hs (by omega), nums_none' hs, fun k => nums_small hs k⟩
  rw [← co_at h, co_numL hs]

/-- The two numbers of a first row. -/
theorem row_first {w : World} {v : Value} {a b : Int} {l : List (List Int)} (h : IntRows w v ([a, b] :: l)) :
    ∃ bb off cap eb eoff cap2, v = .slice (some ⟨bb, off, none⟩) (l.length + 1) cap ∧ w.cell? ⟨bb, off, none⟩ = some (.slice (some ⟨eb, eoff, none⟩) 2 cap2) ∧
      w.cell? ⟨eb, eoff, none⟩ = some (.int .i64 a) ∧ w.cell? ⟨eb, eoff + 1, none⟩ = some (.int .i64 b) := by
  obtain ⟨A, cap, hve, _, hcs⟩ := h.at
  obtain ⟨bb, off, u, hA, hcell, hx⟩ := hcs 0 (by simp)
  subst hA
  obtain ⟨A2, cap2, rfl, _, hc2⟩ := hx
  obtain ⟨eb, eoff, rfl, hce0⟩ := hc2 0 (by simp)
  obtain ⟨eb', eoff', hbe, hce1⟩ := hc2 1 (by simp)
  cases hbe
  exact ⟨bb, off, cap, eb, eoff, cap2, hve, hcell, hce0, hce1⟩

end Go.Proofs.YtnmemefkeehjjaaDoor
