/-
  A SLICE OF INTEGERS THAT CAME IN, as the walks want it (seats without the library's tables).
-/
import Derived.Test.YtjhjfopokiaiiaaBase
import Derived.OpenShut
import Derived.ProofKit
namespace Go.Proofs.Ytjhjfopokiaiiaa
set_option linter.unusedVariables false
set_option linter.unusedSimpArgs false
open Go.RowKit Go.ChangeShapes Go.WideShapes Go.ChangeAt

theorem ints_of_open' {W : World} {x : Addr} {l c : Nat} {zs : List Int} (hl : l ≤ c) (hm : c ≤ maxLen) (hz : zs.length = c)
    (hcell : ∀ i, i < zs.length → W.cell? (x.add i) = some (.int .i64 (zs.getD i 0))) :
    ∃ xs : List Int, Ints W (.slice (some x) l c) xs := by
  refine ⟨zs.take l, ⟨some x, c, by simp [List.length_take]; omega, by simp [List.length_take]; omega, fun i hi => ?_⟩⟩
  have hi' : i < l ∧ i < zs.length := by simp [List.length_take] at hi; omega
  obtain ⟨b, off, rfl, hc⟩ := ints_at hcell (by omega)
  refine ⟨b, off, rfl, ?_⟩
  rw [hc i hi'.2]
  simp [hi'.2]

end Go.Proofs.Ytjhjfopokiaiiaa
