/-
  FnExactGraphOther, at every list.
-/
import Derived.Test.YtdclpakkfhebjadDoorLawOther
import Derived.Test.YtdclpakkfhebjadDoorGraphOther
namespace Go.Proofs.YtdclpakkfhebjadDoor
open Go.RowKit

theorem otherOf_len (xs : List Int) : (otherOf xs).length ≤ 1048576 := by
  unfold otherOf
  split
  · rename_i h
    obtain ⟨_, h8, _⟩ := gIn_parts h
    rw [glist_len]; omega
  · simp

theorem FnExactGraphOther_final (w : World) (v : Value) (xs : List Int) (h : Ints w v xs) (hr : ∀ x ∈ xs, I64 x) (hT : Tab w) :
    Calls Tryd.prog 4 #[v] w fun e w' => e = .returned (.bool true) ∧ Below w.heap.size w w' :=
  FnExactGraphOther_walk w v xs h hT (gIn xs) (otherOf xs) (otherOf_len xs) (fun W u hu => specOther_any W u xs hu) (fun W u hu hT => implOther_any W u xs hu hr hT)

end Go.Proofs.YtdclpakkfhebjadDoor
