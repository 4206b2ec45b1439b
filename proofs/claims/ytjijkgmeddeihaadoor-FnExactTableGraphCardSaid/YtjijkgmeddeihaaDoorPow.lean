/-
  The numbers of a graph are sets of its nodes.
-/
import Derived.Test.YtjijkgmeddeihaaDoorIn
namespace Go.Proofs.YtjijkgmeddeihaaDoor
set_option linter.unusedVariables false
set_option linter.unusedSimpArgs false
open Go.RowKit

theorem gfun_pow {xs : List Int} (h : okTo xs xs.length = true) : ∀ i, gfun xs i < 2 ^ xs.length := by
  intro i
  by_cases hi : i < xs.length
  · have h1 := okTo_at h hi
    simp only [rowOk, Bool.and_eq_true, decide_eq_true_eq] at h1
    unfold gfun
    omega
  · rw [gfun_far (by omega)]; exact Nat.two_pow_pos _


end Go.Proofs.YtjijkgmeddeihaaDoor
