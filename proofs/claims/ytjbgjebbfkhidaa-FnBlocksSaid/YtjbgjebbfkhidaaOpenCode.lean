/-
  THE DRAWN BYTES, as they came in (seats without the library's tables).
-/
import Derived.Test.YtjbgjebbfkhidaaDraw1
import Derived.OpenShut
import Derived.ProofKit
namespace Go.Proofs.Ytjbgjebbfkhidaa
set_option linter.unusedVariables false
set_option linter.unusedSimpArgs false
open Go.RowKit Go.ChangeShapes Go.WideShapes Go.ChangeAt

theorem code8_of_open {W : World} {x : Addr} {l c : Nat} {zs : List Int} (hl : l ≤ c) (hz : zs.length = c)
    (hcell : ∀ i, i < zs.length → W.cell? (x.add i) = some (.int .u8 (zs.getD i 0))) (hwz : ∀ n ∈ zs, (Lit.int .u8 n).wf = true) : Code8 W (some x) l := by
  intro i hi
  obtain ⟨b, off, rfl, hx⟩ := ints_at hcell (by omega)
  have hi' : i < zs.length := by omega
  have hmem : zs.getD i 0 ∈ zs := by
    rw [List.getD_eq_getElem?_getD, List.getElem?_eq_getElem hi']
    exact List.getElem_mem hi'
  have hw := hwz _ hmem
  have hr := bounds_u8 hw
  exact ⟨b, off, (zs.getD i 0).toNat, rfl, by rw [hx i hi']; congr 2; omega, by omega⟩

end Go.Proofs.Ytjbgjebbfkhidaa
