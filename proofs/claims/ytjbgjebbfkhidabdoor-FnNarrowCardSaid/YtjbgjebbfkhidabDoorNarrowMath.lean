/-
  THE NARROWEST CHOICE TOUCHES ITS NUMBER, AND NO CHOICE STAYS BELOW IT: plain functions.
-/
import Derived.Test.YtjbgjebbfkhidabDoorMoreMath
import Derived.Test.YtjbgjebbfkhidabDoorFinQNarrow
namespace Go.Proofs.YtjbgjebbfkhidabDoor
set_option linter.unusedVariables false
set_option linter.unusedSimpArgs false
open Go.RowKit

def entI (xss : List (List Int)) (ps : List Int) (k : Nat) : Int := (xss.getD k []).getD (ps.getD k 0).toNat 0
def anyTo (p : Nat → Bool) : Nat → Bool
  | 0 => false
  | k + 1 => anyTo p k || p k
theorem anyTo_yes {p : Nat → Bool} : ∀ {n j : Nat}, j < n → p j = true → anyTo p n = true
  | n + 1, j, h, hp => by
    show (anyTo p n || p n) = true
    by_cases e : j = n
    · rw [← e, hp, Bool.or_true]
    · rw [anyTo_yes (show j < n by omega) hp, Bool.true_or]
theorem wide_ge (xss : List (List Int)) (ps : List Int) : ∀ {k j : Nat}, j < k → entI xss ps j ≤ wideTo xss ps k
  | k + 1, j, h => by
    show _ ≤ max (wideTo xss ps k) (entI xss ps k)
    by_cases e : j = k
    · rw [e]; omega
    · have := wide_ge xss ps (show j < k by omega); omega
theorem wide_hit {xss : List (List Int)} {ps : List Int} (h : Choice xss ps) : ∀ {k : Nat}, 0 < k → k ≤ ps.length → ∃ j, j < k ∧ entI xss ps j = wideTo xss ps k
  | k + 1, _, hk => by
    obtain ⟨m, hk2, hm, -, -, he, hb1, hb2⟩ := h.at (show k < ps.length by omega)
    have hw : wideTo xss ps (k + 1) = max (wideTo xss ps k) (entI xss ps k) := rfl
    rcases Nat.eq_zero_or_pos k with h0 | h0
    · subst h0
      refine ⟨0, by omega, ?_⟩
      rw [hw]
      have e1 : entI xss ps 0 = xss[0][m] := he
      have e2 : wideTo xss ps 0 = minI := rfl
      rw [e1, e2]
      unfold minI
      omega
    · obtain ⟨j, hj, hje⟩ := wide_hit h h0 (by omega)
      by_cases hc : wideTo xss ps k ≤ entI xss ps k
      · exact ⟨k, by omega, by rw [hw]; omega⟩
      · exact ⟨j, by omega, by rw [hw]; omega⟩
theorem narrow_facts {xss : List (List Int)} (h : cIn xss = true) : Choice xss (nqOf xss) ∧ Choice xss (lqOf xss) ∧ (∀ j, j < xss.length → entI xss (nqOf xss) j ≤ nqC xss) ∧
    anyTo (fun j => entI xss (nqOf xss) j == nqC xss) xss.length = true ∧ anyTo (fun j => decide (nqC xss ≤ entI xss (lqOf xss) j)) xss.length = true := by
  obtain ⟨h1, h6⟩ := cIn_size h
  have e1 : nqOf xss = leastI (wide8 xss) xss.length := if_pos h
  have e2 : nqC xss = wide8 xss (nqOf xss) := by rw [e1]; exact if_pos h
  have r1 := leastI_rank (wide8 xss) h1 h6
  have r2 := leastI_rank (cost8 xss) h1 h6
  have c1 : Choice xss (nqOf xss) := by rw [e1]; exact choice_of h r1
  have c2 : Choice xss (lqOf xss) := by rw [(lq_of h).1]; exact choice_of h r2
  have hle : nqC xss ≤ wide8 xss (lqOf xss) := by rw [e2, e1, (lq_of h).1]; exact leastI_le (wide8 xss) h1 h6 r2
  refine ⟨c1, c2, fun j hj => ?_, ?_, ?_⟩
  · rw [e2]; exact wide_ge xss _ (by rw [c1.len]; exact hj)
  · obtain ⟨j, hj, hje⟩ := wide_hit c1 (k := (nqOf xss).length) (by rw [c1.len]; exact h1) (Nat.le_refl _)
    refine anyTo_yes (by rw [c1.len] at hj; exact hj) ?_
    rw [e2]
    exact beq_iff_eq.2 hje
  · obtain ⟨j, hj, hje⟩ := wide_hit c2 (k := (lqOf xss).length) (by rw [c2.len]; exact h1) (Nat.le_refl _)
    refine anyTo_yes (by rw [c2.len] at hj; exact hj) ?_
    rw [decide_eq_true_iff, hje]
    exact hle

end Go.Proofs.YtjbgjebbfkhidabDoor
