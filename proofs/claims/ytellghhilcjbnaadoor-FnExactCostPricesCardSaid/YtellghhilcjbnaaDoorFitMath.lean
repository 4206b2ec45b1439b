/-
  PRICES THAT FIT PAY AT MOST THE LEAST COST: plain functions.
-/
import Derived.Test.YtellghhilcjbnaaDoorMoreMath
import Derived.Test.YtellghhilcjbnaaDoorQFit
import Derived.Test.YtellghhilcjbnaaDoorRnk
namespace Go.Proofs.YtellghhilcjbnaaDoor
set_option linter.unusedVariables false
set_option linter.unusedSimpArgs false
open Go.RowKit

def sumTo8 (ps : List Int) : Nat → Int
  | 0 => 0
  | k + 1 => sumTo8 ps k + ps.getD k 0
theorem sumTo8_map (ps : List Int) : ∀ k, sumTo8 ps k = ((List.range k).map fun i => ps.getD i 0).sum
  | 0 => rfl
  | k + 1 => by
    rw [List.range_succ, List.map_append, List.sum_append, ← sumTo8_map ps k]
    simp [sumTo8]
theorem sumTo8_bound {ps : List Int} (h : ∀ x ∈ ps, -100000 ≤ x ∧ x ≤ 100000) : ∀ k : Nat, -100000 * (k : Int) ≤ sumTo8 ps k ∧ sumTo8 ps k ≤ 100000 * (k : Int)
  | 0 => by simp [sumTo8]
  | k + 1 => by
    have ih := sumTo8_bound h k
    have hx : -100000 ≤ ps.getD k 0 ∧ ps.getD k 0 ≤ 100000 := by
      by_cases hk : k < ps.length
      · rw [show ps.getD k 0 = ps[k] by simp [List.getD, hk]]; exact h _ (List.getElem_mem hk)
      · rw [show ps.getD k 0 = 0 by simp [List.getD, hk]]; omega
    show -100000 * ((k + 1 : Nat) : Int) ≤ sumTo8 ps k + _ ∧ sumTo8 ps k + _ ≤ _
    omega
theorem sum_le_map {f g : Nat → Int} : ∀ {l : List Nat}, (∀ i ∈ l, f i ≤ g i) → (l.map f).sum ≤ (l.map g).sum
  | [], _ => Int.le_refl _
  | a :: l, h => by
    have h1 := h a (by simp)
    have h2 := sum_le_map (l := l) fun i hi => h i (by simp [hi])
    simp only [List.map_cons, List.sum_cons]
    omega
theorem sum_add_map {f g : Nat → Int} : ∀ (l : List Nat), (l.map f).sum + (l.map g).sum = (l.map fun i => f i + g i).sum
  | [] => rfl
  | a :: l => by
    have := sum_add_map (f := f) (g := g) l
    simp only [List.map_cons, List.sum_cons]
    omega
theorem cost_sum8 (xss : List (List Int)) (ps : List Int) : ∀ k, costTo xss ps k = ((List.range k).map fun i => (xss.getD i []).getD (ps.getD i 0).toNat 0).sum
  | 0 => rfl
  | k + 1 => by
    rw [List.range_succ, List.map_append, List.sum_append, ← cost_sum8 xss ps k]
    simp [costTo]
theorem fit_parts {xss : List (List Int)} {ps : List Int} (h : fitOk xss ps = true) : cIn xss = true ∧ ps.length = 2 * xss.length ∧ (∀ x ∈ ps, -100000 ≤ x ∧ x ≤ 100000) ∧ ∀ r c, r < xss.length → c < xss.length → ps.getD r 0 + ps.getD (xss.length + c) 0 ≤ (xss.getD r []).getD c 0 := by
  unfold fitOk at h
  rw [Bool.and_eq_true, Bool.and_eq_true, Bool.and_eq_true, decide_eq_true_iff, List.all_eq_true] at h
  obtain ⟨h1, h2, h3, h4⟩ := h
  refine ⟨h1, h2, fun x hx => ?_, fun r c hr hc => ?_⟩
  · have := h3 x hx
    unfold inL at this
    exact decide_eq_true_iff.1 this
  · unfold fitB at h4
    rw [List.all_eq_true] at h4
    have := h4 r (List.mem_range.2 hr)
    rw [List.all_eq_true] at this
    have := this c (List.mem_range.2 hc)
    unfold fitAt at this
    exact decide_eq_true_iff.1 this
theorem fit_least {xss : List (List Int)} {ps : List Int} (h : fitOk xss ps = true) (h4 : xss.length ≤ 4) : sumTo8 ps ps.length ≤ lqC xss := by
  obtain ⟨hc, hl, -, hfit⟩ := fit_parts h
  obtain ⟨h1, h6⟩ := cIn_size hc
  have hr := leastI_rank (cost8 xss) h1 h6
  obtain ⟨hrl, hin, -⟩ := rank_parts hr
  rw [(lq_of hc).2.1, (lq_of hc).1]
  obtain ⟨qs, hqs⟩ : ∃ qs, leastI (cost8 xss) xss.length = qs := ⟨_, rfl⟩
  rw [hqs] at hr hrl hin ⊢
  have hlt : ∀ i, i < xss.length → (qs.getD i 0).toNat < xss.length := fun i hi => by
    have hi' : i < qs.length := by omega
    have := hin _ (List.getElem_mem hi')
    rw [show qs.getD i 0 = qs[i] by simp [List.getD, hi']]
    omega
  unfold cost8
  rw [cost_sum8, hrl, sumTo8_map, hl]
  have e : List.range (2 * xss.length) = List.range xss.length ++ (List.range xss.length).map (xss.length + ·) := by
    rw [show 2 * xss.length = xss.length + xss.length by omega, List.range_add]
  rw [e, List.map_append, List.sum_append, List.map_map]
  have hp := (back_perm h1 (by omega) hr).map Prod.fst
  rw [List.map_map, List.map_map] at hp
  have hq : ((List.range xss.length).map ((fun i => ps.getD i 0) ∘ (xss.length + ·))).sum = ((List.range xss.length).map fun i => ps.getD (xss.length + (qs.getD i 0).toNat) 0).sum := by
    have := perm_sum (fun c => ps.getD (xss.length + c) 0) hp
    rw [List.map_map, List.map_map] at this
    exact this
  rw [hq, sum_add_map]
  exact sum_le_map fun i hi => hfit i _ (List.mem_range.1 hi) (hlt i (List.mem_range.1 hi))

end Go.Proofs.YtellghhilcjbnaaDoor
