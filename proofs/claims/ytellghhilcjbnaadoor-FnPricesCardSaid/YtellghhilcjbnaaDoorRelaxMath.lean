/-
  PRICES AS THE SPECIFICATION FINDS THEM: plain functions.
-/
import Derived.Test.YtellghhilcjbnaaDoorSpecQLeast
namespace Go.Proofs.YtellghhilcjbnaaDoor
set_option linter.unusedVariables false
set_option linter.unusedSimpArgs false
open Go.RowKit

def colC (xss : List (List Int)) (i j : Nat) : Int := (xss.getD i []).getD j 0
def ownC (ps : List Int) (i : Nat) : Nat := (ps.getD i 0).toNat
/-- One step put ahead. -/
def rel1 (xss : List (List Int)) (ps : List Int) (i : Nat) (f : List Int) (j : Nat) : List Int := f.set j (min (f.getD j 0) (f.getD (ownC ps i) 0 + colC xss i j - colC xss i (ownC ps i)))
def relJ (xss : List (List Int)) (ps : List Int) (i : Nat) (f : List Int) : Nat → List Int
  | 0 => f
  | j + 1 => rel1 xss ps i (relJ xss ps i f j) j
def relI (xss : List (List Int)) (ps : List Int) (f : List Int) : Nat → List Int
  | 0 => f
  | i + 1 => relJ xss ps i (relI xss ps f i) xss.length
def relK (xss : List (List Int)) (ps : List Int) : Nat → List Int
  | 0 => List.replicate xss.length 0
  | k + 1 => relI xss ps (relK xss ps k) xss.length
theorem relJ_len (xss : List (List Int)) (ps : List Int) (i : Nat) (f : List Int) : ∀ j, (relJ xss ps i f j).length = f.length
  | 0 => rfl
  | j + 1 => by show ((relJ xss ps i f j).set _ _).length = _; rw [List.length_set, relJ_len xss ps i f j]
theorem relI_len (xss : List (List Int)) (ps : List Int) (f : List Int) : ∀ i, (relI xss ps f i).length = f.length
  | 0 => rfl
  | i + 1 => by show (relJ xss ps i (relI xss ps f i) xss.length).length = _; rw [relJ_len, relI_len xss ps f i]
theorem relK_len (xss : List (List Int)) (ps : List Int) : ∀ k, (relK xss ps k).length = xss.length
  | 0 => by simp [relK]
  | k + 1 => by show (relI xss ps (relK xss ps k) xss.length).length = _; rw [relI_len, relK_len xss ps k]
/-- How far prices can have gone down. -/
def Bnd (f : List Int) (t : Nat) : Prop := ∀ x ∈ f, -2000 * (t : Int) ≤ x ∧ x ≤ 0
theorem Bnd.at {f : List Int} {t : Nat} (h : Bnd f t) (j : Nat) : -2000 * (t : Int) ≤ f.getD j 0 ∧ f.getD j 0 ≤ 0 := by
  by_cases hj : j < f.length
  · rw [show f.getD j 0 = f[j] by simp [List.getD, hj]]; exact h _ (List.getElem_mem hj)
  · rw [show f.getD j 0 = 0 by simp [List.getD, hj]]; omega
theorem Bnd.mono {f : List Int} {t t' : Nat} (h : Bnd f t) (hh : t ≤ t') : Bnd f t' := fun x hx => by have := h x hx; omega
theorem colC_bound {xss : List (List Int)} (h : cIn xss = true) (i j : Nat) : -1000 ≤ colC xss i j ∧ colC xss i j ≤ 1000 := by
  unfold colC
  by_cases hi : i < xss.length
  · rw [show xss.getD i [] = xss[i] by simp [List.getD, hi]]
    unfold cIn at h
    rw [Bool.and_eq_true, List.all_eq_true] at h
    have := h.1 _ (List.getElem_mem hi)
    unfold rowC at this
    rw [Bool.and_eq_true, decide_eq_true_iff, List.all_eq_true] at this
    by_cases hj : j < xss[i].length
    · rw [show xss[i].getD j 0 = xss[i][j] by simp [List.getD, hj]]
      exact numC_yes (this.2 _ (List.getElem_mem hj))
    · rw [show xss[i].getD j 0 = 0 by simp [List.getD, hj]]; omega
  · rw [show xss.getD i [] = [] by simp [List.getD, hi]]; simp
theorem rel1_bnd {xss : List (List Int)} (h : cIn xss = true) (ps : List Int) (i j : Nat) {f : List Int} {t : Nat} (hf : Bnd f t) : Bnd (rel1 xss ps i f j) (t + 1) := by
  intro x hx
  rcases List.mem_or_eq_of_mem_set hx with hx | rfl
  · exact hf.mono (Nat.le_succ t) x hx
  · have h1 := hf.at j
    have h2 := hf.at (ownC ps i)
    have h3 := colC_bound h i j
    have h4 := colC_bound h i (ownC ps i)
    omega
theorem relJ_bnd {xss : List (List Int)} (h : cIn xss = true) (ps : List Int) (i : Nat) {f : List Int} {t : Nat} (hf : Bnd f t) : ∀ j, Bnd (relJ xss ps i f j) (t + j)
  | 0 => hf
  | j + 1 => rel1_bnd h ps i j (relJ_bnd h ps i hf j)
theorem relI_bnd {xss : List (List Int)} (h : cIn xss = true) (h6 : xss.length ≤ 6) (ps : List Int) {f : List Int} {t : Nat} (hf : Bnd f t) : ∀ i, Bnd (relI xss ps f i) (t + 6 * i)
  | 0 => hf
  | i + 1 => (relJ_bnd h ps i (relI_bnd h h6 ps hf i) xss.length).mono (by omega)
theorem relK_bnd {xss : List (List Int)} (h : cIn xss = true) (h6 : xss.length ≤ 6) (ps : List Int) : ∀ k, Bnd (relK xss ps k) (36 * k)
  | 0 => fun x hx => by
    have : x = 0 := List.eq_of_mem_replicate hx
    omega
  | k + 1 => (relI_bnd h h6 ps (relK_bnd h h6 ps k) xss.length).mono (by omega)
/-- What CostPrices says. -/
def rowP (xss : List (List Int)) (ps f : List Int) (k : Nat) : List Int := (List.range k).map fun i => colC xss i (ownC ps i) - f.getD (ownC ps i) 0
def pqOf (xss : List (List Int)) : List Int := if cIn xss = true then rowP xss (lqOf xss) (relK xss (lqOf xss) xss.length) xss.length ++ relK xss (lqOf xss) xss.length else []

end Go.Proofs.YtellghhilcjbnaaDoor
