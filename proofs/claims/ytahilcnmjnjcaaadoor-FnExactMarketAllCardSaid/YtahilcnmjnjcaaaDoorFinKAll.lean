/-
  FnExactMarketAll: the law's walk with both contracts.
-/
import Derived.Test.YtahilcnmjnjcaaaDoorLawKAll
import Derived.Test.YtahilcnmjnjcaaaDoorImplMAll
import Derived.Test.YtahilcnmjnjcaaaDoorSpecMA
namespace Go.Proofs.YtahilcnmjnjcaaaDoor
set_option linter.unusedVariables false
set_option linter.unusedSimpArgs false
open Go.RowKit

theorem total_le5 {ys : List (List Int)} : (∀ y ∈ ys, y.length ≤ 5) → total ys ≤ 5 * ys.length := by
  unfold total
  induction ys with
  | nil => intro _; simp
  | cons y ys ih =>
    intro h
    have h1 := h y (by simp)
    have h2 := ih fun z hz => h z (by simp [hz])
    rw [List.map_cons, List.sum_cons, List.length_cons]
    omega
theorem allL_fits (ls rs : List (List Int)) : (allL ls rs).length + total (allL ls rs) ≤ 1048576 := by
  have h1 := allL_len5 ls rs
  have h2 : total (allL ls rs) ≤ 5 * (allL ls rs).length := total_le5 fun y hy => by
    cases h : mktOk ls rs with
    | false => rw [allL_no h] at hy; simp at hy
    | true =>
      obtain ⟨⟨_, h5, _⟩, -⟩ := mktOk_parts h
      have hp := (stable_parts ((mem_allL h).1 hy)).1
      unfold pairOk at hp
      rw [Bool.and_eq_true] at hp
      rw [(rank_parts hp.2).1]
      exact h5
  omega

theorem FnExactMarketAll_final (w : World) (L R : Value) (ls rs : List (List Int)) (hL : IntRows w L ls) (hR : IntRows w R rs) (hT : Tab w) :
    Calls Tryd.prog 3 #[.agg (two L R)] w fun e w' => e = .returned (.bool true) ∧ Below w.heap.size w w' :=
  FnExactMarketAll_walk w L R ls rs hL hR hT (mktOk ls rs) _ (allL_fits ls rs) (fun W L R h1 h2 => specMAll_any W L R ls rs h1 h2) (fun W L R h1 h2 hTW => implMAll_any W L R ls rs h1 h2 hTW)

end Go.Proofs.YtahilcnmjnjcaaaDoor
