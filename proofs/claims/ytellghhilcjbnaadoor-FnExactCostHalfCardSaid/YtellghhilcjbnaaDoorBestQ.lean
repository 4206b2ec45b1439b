/-
  What a choice costs is a measure.
-/
import Derived.Test.YtellghhilcjbnaaDoorBestI
import Derived.Test.YtellghhilcjbnaaDoorQMath
namespace Go.Proofs.YtellghhilcjbnaaDoor
set_option linter.unusedVariables false
set_option linter.unusedSimpArgs false
open Go.RowKit

theorem cost_meas (xss : List (List Int)) : ∀ (p : List Nat), (∀ v ∈ p, v < 6) → p.length ≤ xss.length → cost8 xss (p.map Int.ofNat) = meas (· + ·) 0 (flat xss) 0 p := by
  intro p h6 hl
  have key : ∀ k, k ≤ p.length → costTo xss (p.map Int.ofNat) k + meas (· + ·) 0 (flat xss) k (p.drop k) = meas (· + ·) 0 (flat xss) 0 p := by
    intro k
    induction k with
    | zero => intro _; simp [costTo]
    | succ k ih =>
      intro hk
      rw [← ih (by omega)]
      have hdr : p.drop k = p[k] :: p.drop (k + 1) := List.drop_eq_getElem_cons (by omega)
      rw [hdr]
      show costTo xss (p.map Int.ofNat) k + (xss.getD k []).getD ((p.map Int.ofNat).getD k 0).toNat 0 + meas (· + ·) 0 (flat xss) (k + 1) (p.drop (k + 1)) = costTo xss (p.map Int.ofNat) k + (meas (· + ·) 0 (flat xss) (k + 1) (p.drop (k + 1)) + flat xss (6 * k + p[k]))
      have e1 : ((p.map Int.ofNat).getD k 0).toNat = p[k] := by
        have : k < p.length := by omega
        simp [List.getD, List.getElem?_eq_getElem this]
      have e2 : flat xss (6 * k + p[k]) = (xss.getD k []).getD p[k] 0 := by
        have := h6 p[k] (List.getElem_mem _)
        unfold flat
        rw [show (6 * k + p[k]) / 6 = k by omega, show (6 * k + p[k]) % 6 = p[k] by omega]
      rw [e1, e2]; omega
  have := key p.length (Nat.le_refl _)
  rw [List.drop_length] at this
  unfold cost8
  rw [List.length_map, ← this]
  simp [meas]

end Go.Proofs.YtellghhilcjbnaaDoor
