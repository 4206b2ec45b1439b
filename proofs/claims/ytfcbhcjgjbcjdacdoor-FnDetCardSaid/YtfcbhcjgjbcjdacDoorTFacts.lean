/-
  What a table's numbers are like.
-/
import Derived.Test.YtfcbhcjgjbcjdacDoorTIn
import Derived.Test.YtfcbhcjgjbcjdacDoorFlat
namespace Go.Proofs.YtfcbhcjgjbcjdacDoor
set_option linter.unusedVariables false
set_option linter.unusedSimpArgs false
open Go.RowKit

theorem tIn_facts {xss : List (List Int)} (h : tIn xss = true) : 1 ≤ xss.length ∧ xss.length ≤ 6 ∧ ∀ i (hi : i < xss.length), xss[i].length = xss.length ∧ ∀ j (hj : j < xss[i].length), -30 ≤ xss[i][j] ∧ xss[i][j] ≤ 30 := by
  unfold tIn at h
  rw [Bool.and_eq_true, decide_eq_true_iff, List.all_eq_true] at h
  refine ⟨h.2.1, h.2.2, fun i hi => ?_⟩
  have hr := h.1 _ (List.getElem_mem hi)
  unfold rowT at hr
  rw [Bool.and_eq_true, decide_eq_true_iff, List.all_eq_true] at hr
  exact ⟨hr.1, fun j hj => numT_yes (hr.2 _ (List.getElem_mem hj))⟩
theorem flat_far {xss : List (List Int)} (h : tIn xss = true) {i : Nat} (hi : xss.length ≤ i / 6 ∨ xss.length ≤ i % 6) : flat xss i = 0 := by
  obtain ⟨_, _, hr⟩ := tIn_facts h
  unfold flat
  by_cases hk : i / 6 < xss.length
  · have e : xss.getD (i / 6) [] = xss[i / 6] := by simp [List.getD, List.getElem?_eq_getElem hk]
    rw [e, List.getD_eq_getElem?_getD, List.getElem?_eq_none (by rw [(hr _ hk).1]; omega)]; rfl
  · have e : xss.getD (i / 6) [] = [] := by simp [List.getD, List.getElem?_eq_none (show xss.length ≤ i / 6 by omega)]
    rw [e]; rfl
theorem flat_small {xss : List (List Int)} (h : tIn xss = true) (i : Nat) : -30 ≤ flat xss i ∧ flat xss i ≤ 30 := by
  obtain ⟨_, h6, hr⟩ := tIn_facts h
  by_cases hf : xss.length ≤ i / 6 ∨ xss.length ≤ i % 6
  · rw [flat_far h hf]; omega
  · have hk : i / 6 < xss.length := by omega
    have hj : i % 6 < xss[i / 6].length := by rw [(hr _ hk).1]; omega
    have := flat_at xss hk hj (by omega)
    rw [show 6 * (i / 6) + i % 6 = i by omega] at this
    rw [this]
    exact (hr _ hk).2 _ hj

end Go.Proofs.YtfcbhcjgjbcjdacDoor
