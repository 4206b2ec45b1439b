/-
  spec.CostTurned; impl.CostTurned.
-/
import Derived.Test.YtellghhilcjbnaaDoorFinQIn
import Derived.Test.YtellghhilcjbnaaDoorTLT
import Derived.Deep.AppendLies
namespace Go.Proofs.YtellghhilcjbnaaDoor
set_option linter.unusedVariables false
set_option linter.unusedSimpArgs false
open Go.RowKit

def trRow (xss : List (List Int)) (k : Nat) : List Int := (List.range xss.length).map fun i => (xss.getD i []).getD k 0
def trs (xss : List (List Int)) : List (List Int) := (List.range xss.length).map (trRow xss)
def trOf (xss : List (List Int)) : List (List Int) := if cIn xss = true then trs xss else []
theorem trRow_len (xss : List (List Int)) (k : Nat) : (trRow xss k).length = xss.length := by simp [trRow]
theorem trs_len (xss : List (List Int)) : (trs xss).length = xss.length := by simp [trs]
theorem trs_take (xss : List (List Int)) {k : Nat} (hk : k < xss.length) : (trs xss).take (k + 1) = (trs xss).take k ++ [trRow xss k] := by
  rw [List.take_succ_eq_append_getElem (by rw [trs_len]; exact hk)]
  simp [trs]
theorem trRow_take (xss : List (List Int)) (k : Nat) {i : Nat} (hi : i < xss.length) : (trRow xss k).take (i + 1) = (trRow xss k).take i ++ [(xss.getD i []).getD k 0] := by
  rw [List.take_succ_eq_append_getElem (by rw [trRow_len]; exact hi)]
  simp [trRow]
theorem rows_flat (xss : List (List Int)) (h6 : xss.length ≤ 6) : rowsOf xss.length (trF (flat xss)) = trs xss := by
  unfold rowsOf trs
  apply List.map_congr_left
  intro k hk
  unfold rowOf trRow
  apply List.map_congr_left
  intro c hc
  rw [List.mem_range] at hk hc
  unfold trF flat
  have e1 : (6 * k + c) % 6 = c := by omega
  have e2 : (6 * k + c) / 6 = k := by omega
  rw [e1, e2]
  have e3 : (6 * c + k) / 6 = c := by omega
  have e4 : (6 * c + k) % 6 = k := by omega
  rw [e3, e4]
theorem total_same {n : Nat} : ∀ (xss : List (List Int)), (∀ x ∈ xss, x.length = n) → total xss = xss.length * n
  | [], _ => by simp [total]
  | x :: t, h => by
    have h0 := h x (by simp)
    have ht := total_same t (fun y hy => h y (by simp [hy]))
    unfold total at ht ⊢
    simp only [List.map_cons, List.sum_cons, List.length_cons, Nat.succ_mul]
    omega
theorem trOf_fits (xss : List (List Int)) : (trOf xss).length + total (trOf xss) ≤ 1048576 := by
  unfold trOf
  split
  · rename_i h
    obtain ⟨h1, h6⟩ := cIn_size h
    rw [total_same (n := xss.length) _ (fun x hx => by obtain ⟨k, _, rfl⟩ := List.mem_map.1 hx; exact trRow_len xss k), trs_len]
    have : xss.length * xss.length ≤ 6 * 6 := Nat.mul_le_mul h6 h6
    omega
  · simp [total]


end Go.Proofs.YtellghhilcjbnaaDoor
