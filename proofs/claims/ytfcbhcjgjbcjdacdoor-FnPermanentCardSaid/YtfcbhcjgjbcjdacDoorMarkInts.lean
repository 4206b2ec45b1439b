/-
  laws.markIntS writes k, k+1, .. into a slice that the call owns; laws.heldIntS asks whether they still stand there.
-/
import Derived.Test.YtfcbhcjgjbcjdacDoorBase
namespace Go.Proofs.YtfcbhcjgjbcjdacDoor
set_option linter.unusedVariables false
set_option linter.unusedSimpArgs false
open Go.RowKit

/-- k, k+1, .. : n numbers. -/
def marks (k : Int) (n : Nat) : List Int := (List.range n).map fun (i : Nat) => k + (i : Int)
theorem marks_len (k : Int) (n : Nat) : (marks k n).length = n := by simp [marks]
theorem marks_at (k : Int) (n i : Nat) (h : i < (marks k n).length) : (marks k n)[i] = k + i := by simp [marks]

theorem mark_list (xs : List Int) (k : Int) (i : Nat) (h : i < xs.length) :
    (vals (marks k i ++ xs.drop i)).set i (Value.int .i64 (k + i)) = vals (marks k (i + 1) ++ xs.drop (i + 1)) := by
  have e : xs.drop i = xs[i] :: xs.drop (i + 1) := List.drop_eq_getElem_cons h
  have e2 : marks k (i + 1) = marks k i ++ [k + (i : Int)] := by simp [marks, List.range_succ]
  rw [e, e2]
  simp only [vals, List.map_append, List.map_cons, List.map_nil, List.append_assoc, List.cons_append, List.nil_append, List.set_append, List.length_map, marks_len]
  simp



end Go.Proofs.YtfcbhcjgjbcjdacDoor
