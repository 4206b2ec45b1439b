/-
  MORE IN A ROW IS MORE FOR ALL CHOICES: plain functions.
-/
import Derived.Test.YtellghhilcjbnaaDoorQMore
import Derived.Test.YtellghhilcjbnaaDoorSpecQLeast
import Derived.Test.YtellghhilcjbnaaDoorFinQOf
namespace Go.Proofs.YtellghhilcjbnaaDoor
set_option linter.unusedVariables false
set_option linter.unusedSimpArgs false
open Go.RowKit

theorem lq_of {xss : List (List Int)} (h : cIn xss = true) : lqOf xss = leastI (cost8 xss) xss.length ∧ lqC xss = cost8 xss (lqOf xss) ∧ ofB xss (lqOf xss) = true ∧ ofC xss (lqOf xss) = lqC xss := by
  obtain ⟨h1, h6⟩ := cIn_size h
  have e : lqOf xss = leastI (cost8 xss) xss.length := if_pos h
  have e2 : lqC xss = cost8 xss (lqOf xss) := by rw [e]; exact if_pos h
  have e3 : ofB xss (lqOf xss) = true := by unfold ofB; rw [h, e, leastI_rank (cost8 xss) h1 h6]; rfl
  refine ⟨e, e2, e3, ?_⟩
  rw [e2]
  unfold ofC
  rw [if_pos e3]
theorem least_le {xss : List (List Int)} {ps : List Int} (h : ofB xss ps = true) : cIn xss = true ∧ lqC xss ≤ ofC xss ps ∧ ofC xss ps = cost8 xss ps := by
  have e : ofC xss ps = cost8 xss ps := if_pos h
  unfold ofB at h
  rw [Bool.and_eq_true] at h
  obtain ⟨h1, h6⟩ := cIn_size h.1
  refine ⟨h.1, ?_, e⟩
  rw [e, (lq_of h.1).2.1, (lq_of h.1).1]
  exact leastI_le (cost8 xss) h1 h6 h.2
theorem lq_bound {xss : List (List Int)} (h : cIn xss = true) : -6000 ≤ lqC xss ∧ lqC xss ≤ 6000 := by
  obtain ⟨h1, h6⟩ := cIn_size h
  rw [(lq_of h).2.1, (lq_of h).1]
  exact cost8_bound (choice_of h (leastI_rank (cost8 xss) h1 h6))

theorem more_cost {xss : List (List Int)} {ps : List Int} {row d : Int} (hC : Choice xss ps) : ∀ k, k ≤ ps.length → costTo (moreL xss row d) ps k = costTo xss ps k + (if 0 ≤ row ∧ row < (k : Int) then d else 0)
  | 0, _ => by
    have : ¬ (0 ≤ row ∧ row < ((0 : Nat) : Int)) := by omega
    rw [if_neg this]; simp [costTo]
  | k + 1, hk => by
    have ih := more_cost (row := row) (d := d) hC k (by omega)
    obtain ⟨m, hk2, hm, hp, hmn, he, -, -⟩ := hC.at (show k < ps.length by omega)
    have hpk : ps.getD k 0 = (m : Int) := by
      have hkl : k < ps.length := by omega
      simp [List.getD, hkl, hp]
    have hr : (moreL xss row d).getD k [] = moreRow xss row d k := by
      unfold moreL
      have hl : k < ((List.range xss.length).map (moreRow xss row d)).length := by simpa using hk2
      rw [List.getD_eq_getElem?_getD, List.getElem?_eq_getElem hl]
      simp
    show costTo (moreL xss row d) ps k + ((moreL xss row d).getD k []).getD (ps.getD k 0).toNat 0 = costTo xss ps k + (xss.getD k []).getD (ps.getD k 0).toNat 0 + _
    rw [ih, hr, hpk, Int.toNat_natCast]
    have ex : xss.getD k [] = xss[k] := by simp [List.getD, hk2]
    unfold moreRow
    by_cases hkr : (k : Int) = row
    · rw [if_pos hkr, ex]
      have c1 : ¬ (0 ≤ row ∧ row < (k : Int)) := by omega
      have c2 : 0 ≤ row ∧ row < ((k + 1 : Nat) : Int) := by omega
      rw [if_neg c1, if_pos c2]
      have : (xss[k].map (· + d)).getD m 0 = xss[k].getD m 0 + d := by simp [List.getD, hm]
      rw [this]
      omega
    · rw [if_neg hkr]
      by_cases hc : 0 ≤ row ∧ row < (k : Int)
      · have c2 : 0 ≤ row ∧ row < ((k + 1 : Nat) : Int) := by omega
        rw [if_pos hc, if_pos c2]; omega
      · have c2 : ¬ (0 ≤ row ∧ row < ((k + 1 : Nat) : Int)) := by omega
        rw [if_neg hc, if_neg c2]; omega
theorem moreB_parts {xss : List (List Int)} {row d : Int} (h : moreB xss row d = true) : cIn xss = true ∧ (0 ≤ row ∧ row ≤ (xss.length : Int) - 1) ∧ (-2000 ≤ d ∧ d ≤ 2000) ∧ cIn (moreL xss row d) = true := by
  unfold moreB at h
  simp only [Bool.and_eq_true, decide_eq_true_iff] at h
  exact ⟨h.1, h.2.1, h.2.2.1, h.2.2.2⟩
theorem more_least {xss : List (List Int)} {row d : Int} (h : moreB xss row d = true) : moreOf xss row d = moreL xss row d ∧ lqOf (moreL xss row d) = lqOf xss ∧ lqC (moreL xss row d) = lqC xss + d := by
  obtain ⟨hc, hrow, hd, hcm⟩ := moreB_parts h
  obtain ⟨h1, h6⟩ := cIn_size hc
  have hl := moreL_len xss row d
  have key : ∀ p, rankB xss.length p = true → cost8 (moreL xss row d) p = cost8 xss p + d := fun p hp => by
    have hC := choice_of hc hp
    have := more_cost (row := row) (d := d) hC p.length (Nat.le_refl _)
    rw [if_pos (by have := hC.len; omega)] at this
    exact this
  have e : lqOf (moreL xss row d) = lqOf xss := by
    rw [(lq_of hcm).1, (lq_of hc).1, hl]
    exact leastI_shift h1 h6 key
  refine ⟨if_pos h, e, ?_⟩
  rw [(lq_of hcm).2.1, e, (lq_of hc).2.1, (lq_of hc).1]
  exact key _ (leastI_rank (cost8 xss) h1 h6)

end Go.Proofs.YtellghhilcjbnaaDoor
