/-
  FnExactPolyMatch, at every list.
-/
import Derived.Test.YtcklinoiaiilgaaDoorPMatch
import Derived.Test.YtcklinoiaiilgaaDoorSpecPMatch
import Derived.Test.YtcklinoiaiilgaaDoorLawPMatch
namespace Go.Proofs.YtcklinoiaiilgaaDoor
set_option linter.unusedVariables false
set_option linter.unusedSimpArgs false
open Go.RowKit

theorem mpOf_len (xs : List Int) : (mpOf xs).length ≤ 1048576 := by
  unfold mpOf
  split
  · rename_i h
    obtain ⟨_, h8, _⟩ := gIn_parts h
    unfold mpL; rw [tab_len]; omega
  · simp
theorem FnExactPolyMatch_final (w : World) (v : Value) (xs : List Int) (h : Ints w v xs) (hr : ∀ x ∈ xs, I64 x) (hT : Tab w) :
    Calls Tryd.prog 6 #[v] w fun e w' => e = .returned (.bool true) ∧ Below w.heap.size w w' :=
  FnExactPolyMatch_walk w v xs h hT (gIn xs) (mpOf xs) (mpOf_len xs) (fun W u hu => specPMatch_any W u xs hu) (fun W u hu hT => implPMatch_any W u xs hu hr hT)

end Go.Proofs.YtcklinoiaiilgaaDoor
