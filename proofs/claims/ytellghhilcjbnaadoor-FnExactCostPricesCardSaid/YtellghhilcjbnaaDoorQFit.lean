/-
  Prices that fit: plain functions; spec.CostFit; (impl.wholeCosts).allow.
-/
import Derived.Test.YtellghhilcjbnaaDoorCostAt
import Derived.Test.YtellghhilcjbnaaDoorFinQIn
import Derived.Test.YtellghhilcjbnaaDoorCore1
import Derived.Deep.RegionHeld3
namespace Go.Proofs.YtellghhilcjbnaaDoor
set_option linter.unusedVariables false
set_option linter.unusedSimpArgs false
open Go.RowKit

theorem wrap_near (x : Int) (h1 : -4000000 ≤ x) (h2 : x ≤ 4000000) : IntKind.i64.wrap x = x ∧ wrap64 x = x := by
  have h : IntKind.i64.wrap x = x := by rw [IntKind.wrap_i64]; omega
  exact ⟨h, by rw [← wrap_eq]; exact h⟩

def fitAt (xss : List (List Int)) (f g : Nat → Int) (r c : Nat) : Bool := decide (f r + g c ≤ (xss.getD r []).getD c 0)
def fitB (xss : List (List Int)) (f g : Nat → Int) : Bool := (List.range xss.length).all fun r => (List.range xss.length).all fun c => fitAt xss f g r c
theorem fitB_no {xss : List (List Int)} {f g : Nat → Int} {r c : Nat} (hr : r < xss.length) (hc : c < xss.length) (h : fitAt xss f g r c = false) : fitB xss f g = false := by
  unfold fitB
  rw [Bool.eq_false_iff]
  intro hall
  have := List.all_eq_true.1 (List.all_eq_true.1 hall r (List.mem_range.2 hr)) c (List.mem_range.2 hc)
  rw [h] at this
  cases this
theorem fitB_yes {xss : List (List Int)} {f g : Nat → Int} (h : ∀ r c, r < xss.length → c < xss.length → fitAt xss f g r c = true) : fitB xss f g = true := by
  unfold fitB
  exact List.all_eq_true.2 fun r hr => List.all_eq_true.2 fun c hc => h r c (List.mem_range.1 hr) (List.mem_range.1 hc)
def fitOk (xss : List (List Int)) (ps : List Int) : Bool := cIn xss && (decide (ps.length = 2 * xss.length) && (ps.all (inL 100000) && fitB xss (fun r => ps.getD r 0) (fun c => ps.getD (xss.length + c) 0)))
theorem cIn_at {xss : List (List Int)} (h : cIn xss = true) {r c : Nat} (hr : r < xss.length) (hc : c < xss.length) : ∃ hc2 : c < xss[r].length, (xss.getD r []).getD c 0 = xss[r][c] ∧ -1000 ≤ xss[r][c] ∧ xss[r][c] ≤ 1000 := by
  unfold cIn at h
  rw [Bool.and_eq_true, List.all_eq_true] at h
  have := h.1 _ (List.getElem_mem hr)
  unfold rowC at this
  rw [Bool.and_eq_true, decide_eq_true_iff, List.all_eq_true] at this
  have hc2 : c < xss[r].length := by omega
  refine ⟨hc2, ?_, numC_yes (this.2 _ (List.getElem_mem _))⟩
  have e2 : xss.getD r [] = xss[r] := by simp [List.getD, hr]
  rw [e2, List.getD_eq_getElem?_getD, List.getElem?_eq_getElem hc2, Option.getD_some]
theorem l6In_f (n low high : Int) (r : Bool) (h : decide (low ≤ n ∧ n ≤ high) = r) (w : World) :
    Calls Tryd.prog 43 #[.int .i64 n, .int .i64 low, .int .i64 high] w fun e w' => e = .returned (.bool r) ∧ w = w' := l6In_c n low high r h w


end Go.Proofs.YtellghhilcjbnaaDoor
