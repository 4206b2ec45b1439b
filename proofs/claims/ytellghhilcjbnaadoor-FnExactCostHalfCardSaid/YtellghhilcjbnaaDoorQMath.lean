/-
  What a choice costs: plain functions.
-/
import Derived.Test.YtellghhilcjbnaaDoorTabs
import Derived.Test.YtellghhilcjbnaaDoorRnk
namespace Go.Proofs.YtellghhilcjbnaaDoor
set_option linter.unusedVariables false
set_option linter.unusedSimpArgs false
open Go.RowKit

/-- What a choice costs, as far as k rows. -/
def costTo (xss : List (List Int)) (ps : List Int) : Nat → Int
  | 0 => 0
  | k + 1 => costTo xss ps k + (xss.getD k []).getD (ps.getD k 0).toNat 0
def cost8 (xss : List (List Int)) (ps : List Int) : Int := costTo xss ps ps.length

structure Choice (xss : List (List Int)) (ps : List Int) : Prop where
  h1 : 1 ≤ xss.length
  h6 : xss.length ≤ 6
  len : ps.length = xss.length
  row : ∀ k (hk : k < xss.length), xss[k].length = xss.length ∧ ∀ x ∈ xss[k], -1000 ≤ x ∧ x ≤ 1000
  mem : ∀ k (hk : k < ps.length), 0 ≤ ps[k] ∧ ps[k] < xss.length
theorem Choice.at {xss : List (List Int)} {ps : List Int} (h : Choice xss ps) {k : Nat} (hk : k < ps.length) :
    ∃ (m : Nat) (hk2 : k < xss.length) (hm : m < xss[k].length), ps[k] = (m : Int) ∧ m < xss.length ∧ (xss.getD k []).getD (ps.getD k 0).toNat 0 = xss[k][m] ∧ -1000 ≤ xss[k][m] ∧ xss[k][m] ≤ 1000 := by
  have hk2 : k < xss.length := by rw [← h.len]; exact hk
  have hm := h.mem k hk
  obtain ⟨hl, hr⟩ := h.row k hk2
  refine ⟨ps[k].toNat, hk2, by omega, by omega, by omega, ?_, hr _ (List.getElem_mem _)⟩
  have e1 : ps.getD k 0 = ps[k] := by simp [List.getD, hk]
  have e2 : xss.getD k [] = xss[k] := by simp [List.getD, hk2]
  have h3 : ps[k].toNat < xss[k].length := by omega
  rw [e1, e2, List.getD_eq_getElem?_getD, List.getElem?_eq_getElem h3, Option.getD_some]
theorem Choice.bound {xss : List (List Int)} {ps : List Int} (h : Choice xss ps) : ∀ k, k ≤ ps.length → -1000 * (k : Int) ≤ costTo xss ps k ∧ costTo xss ps k ≤ 1000 * (k : Int)
  | 0, _ => by simp [costTo]
  | k + 1, hk => by
    have ih := h.bound k (by omega)
    obtain ⟨m, hk2, hm, -, -, he, hb1, hb2⟩ := h.at (show k < ps.length by omega)
    show -1000 * ((k + 1 : Nat) : Int) ≤ costTo xss ps k + _ ∧ costTo xss ps k + _ ≤ _
    rw [he]
    omega
theorem choice_of {xss : List (List Int)} {ps : List Int} (h : cIn xss = true) (hr : rankB xss.length ps = true) : Choice xss ps := by
  obtain ⟨hl, hin, -⟩ := rank_parts hr
  unfold cIn at h
  rw [Bool.and_eq_true, List.all_eq_true, decide_eq_true_iff] at h
  refine ⟨h.2.1, h.2.2, hl, fun k hk => ?_, fun k hk => ?_⟩
  · have := h.1 _ (List.getElem_mem hk)
    unfold rowC at this
    rw [Bool.and_eq_true, decide_eq_true_iff, List.all_eq_true] at this
    exact ⟨this.1, fun x hx => numC_yes (this.2 x hx)⟩
  · have := hin _ (List.getElem_mem hk)
    omega

end Go.Proofs.YtellghhilcjbnaaDoor
