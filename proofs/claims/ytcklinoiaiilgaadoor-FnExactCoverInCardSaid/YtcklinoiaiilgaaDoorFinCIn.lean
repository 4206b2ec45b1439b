/-
  FnExactCoverIn, at every list and number.
-/
import Derived.Test.YtcklinoiaiilgaaDoorImplCover
import Derived.Test.YtcklinoiaiilgaaDoorLawCIn
namespace Go.Proofs.YtcklinoiaiilgaaDoor
open Go.RowKit

theorem FnExactCoverIn_final (w : World) (v : Value) (xs : List Int) (a : Int) (ha : I64 a) (h : Ints w v xs) (hr : ∀ x ∈ xs, I64 x) (hT : Tab w) :
    Calls Tryd.prog 11 #[v, .int .i64 a] w fun e w' => e = .returned (.bool true) ∧ Below w.heap.size w w' :=
  FnExactCoverIn_walk w v xs a h hT (coverOf xs a) (fun W u hu => specCoverIn_any W u xs a hu) (fun W u hu hT => implCoverIn_any W u xs a ha hu hr hT)
theorem i64_of_wf {a : Int} (h : (Lit.int .i64 a).wf = true) : I64 a := by
  have h1 : IntKind.i64.min = -9223372036854775808 := by decide
  have h2 : IntKind.i64.max = 9223372036854775807 := by decide
  have h3 : (decide (IntKind.i64.min ≤ a) && decide (a ≤ IntKind.i64.max)) = true := h
  rw [h1, h2, Bool.and_eq_true, decide_eq_true_iff, decide_eq_true_iff] at h3
  exact h3

end Go.Proofs.YtcklinoiaiilgaaDoor
