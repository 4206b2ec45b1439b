/-
  Costs with more in a row: plain functions; spec.CostMore.
-/
import Derived.Test.YtellghhilcjbnaaDoorQTurned
namespace Go.Proofs.YtellghhilcjbnaaDoor
set_option linter.unusedVariables false
set_option linter.unusedSimpArgs false
open Go.RowKit

/-- A line with more in its first k numbers. -/
def lineTo (xs : List Int) (d : Int) (k : Nat) : List Int := (xs.take k).map (· + d) ++ xs.drop k
theorem lineTo_len (xs : List Int) (d : Int) (k : Nat) : (lineTo xs d k).length = xs.length := by simp [lineTo]; omega
theorem lineTo_zero (xs : List Int) (d : Int) : lineTo xs d 0 = xs := by simp [lineTo]
theorem lineTo_all (xs : List Int) (d : Int) : lineTo xs d xs.length = xs.map (· + d) := by simp [lineTo]
theorem lineTo_at (xs : List Int) (d : Int) {k : Nat} (hk : k < xs.length) : (lineTo xs d k)[k]? = some xs[k] := by
  unfold lineTo
  rw [List.getElem?_append_right (by rw [List.length_map, List.length_take]; omega)]
  simp [hk, Nat.min_eq_left (Nat.le_of_lt hk)]
theorem lineTo_set (xs : List Int) (d : Int) {k : Nat} (hk : k < xs.length) : (lineTo xs d k).set k (xs[k] + d) = lineTo xs d (k + 1) := by
  unfold lineTo
  rw [List.set_append_right _ _ (by rw [List.length_map, List.length_take]; omega), List.take_succ_eq_append_getElem hk, List.map_append, List.append_assoc]
  have e : k - ((xs.take k).map (· + d)).length = 0 := by simp; omega
  rw [e, List.drop_eq_getElem_cons hk, List.set_cons_zero]
  rfl
def moreRow (xss : List (List Int)) (row d : Int) (i : Nat) : List Int := if (i : Int) = row then (xss.getD i []).map (· + d) else xss.getD i []
def moreL (xss : List (List Int)) (row d : Int) : List (List Int) := (List.range xss.length).map (moreRow xss row d)
def moreB (xss : List (List Int)) (row d : Int) : Bool := cIn xss && (decide (0 ≤ row ∧ row ≤ (xss.length : Int) - 1) && (decide (-2000 ≤ d ∧ d ≤ 2000) && cIn (moreL xss row d)))
def moreOf (xss : List (List Int)) (row d : Int) : List (List Int) := if moreB xss row d = true then moreL xss row d else []
theorem moreL_len (xss : List (List Int)) (row d : Int) : (moreL xss row d).length = xss.length := by simp [moreL]
theorem moreL_take (xss : List (List Int)) (row d : Int) {k : Nat} (hk : k < xss.length) : (moreL xss row d).take (k + 1) = (moreL xss row d).take k ++ [moreRow xss row d k] := by
  rw [List.take_succ_eq_append_getElem (by rw [moreL_len]; exact hk)]
  simp [moreL]
theorem moreRow_len {xss : List (List Int)} {row d : Int} {n : Nat} (h : ∀ i (hi : i < xss.length), xss[i].length = n) {k : Nat} (hk : k < xss.length) : (moreRow xss row d k).length = n := by
  have e2 : xss.getD k [] = xss[k] := by simp [List.getD, hk]
  unfold moreRow
  rw [e2]
  split
  · rw [List.length_map]; exact h k hk
  · exact h k hk
theorem moreOf_no {xss : List (List Int)} {row d : Int} (h : moreB xss row d = false) : moreOf xss row d = [] := by unfold moreOf; rw [h]; rfl
theorem cIn_rows {xss : List (List Int)} (h : cIn xss = true) : ∀ i (hi : i < xss.length), xss[i].length = xss.length ∧ ∀ x ∈ xss[i], -1000 ≤ x ∧ x ≤ 1000 := fun i hi => by
  unfold cIn at h
  rw [Bool.and_eq_true, List.all_eq_true] at h
  have := h.1 _ (List.getElem_mem hi)
  unfold rowC at this
  rw [Bool.and_eq_true, decide_eq_true_iff, List.all_eq_true] at this
  exact ⟨this.1, fun x hx => numC_yes (this.2 x hx)⟩
theorem moreOf_fits (xss : List (List Int)) (row d : Int) : (moreOf xss row d).length + total (moreOf xss row d) ≤ 1048576 := by
  unfold moreOf
  split
  · rename_i h
    unfold moreB at h
    rw [Bool.and_eq_true] at h
    obtain ⟨h1, h6⟩ := cIn_size h.1
    have hr := cIn_rows h.1
    rw [total_same (n := xss.length) _ (fun x hx => by obtain ⟨k, hk, rfl⟩ := List.mem_map.1 hx; exact moreRow_len (fun i hi => (hr i hi).1) (List.mem_range.1 hk)), moreL_len]
    have : xss.length * xss.length ≤ 6 * 6 := Nat.mul_le_mul h6 h6
    omega
  · simp [total]

/-- What the specification hands back where it fails. -/
theorem none_rows {w W : World} {ok : Bool} (hb : Below w.heap.size w W) (hok : ok = false) : GivesRows w ok [] (.returned (.tuple #[.slice (some ⟨W.heap.size, 0, none⟩) 0 0, .bool false])) (W.alloc (.cells #[] 24)) := by
  have hown := World.ownsRow_made (base := w.heap.size) (e := 24) (size := 1) W #[] 0 hb.size (Nat.zero_le _) rfl
  exact ⟨_, [], by rw [hok], hb.alloc hb.size _, owns_rows_nil _ _ _ hown⟩

theorem vals_setq (xs : List Int) (i : Nat) (v : Int) : (vals xs).set i (.int .i64 v) = vals (xs.set i v) := by simp [vals, List.map_set]
theorem wrap_more (x : Int) (h1 : -4000000 ≤ x) (h2 : x ≤ 4000000) : IntKind.i64.wrap x = x ∧ wrap64 x = x := by
  have h : IntKind.i64.wrap x = x := by rw [IntKind.wrap_i64]; omega
  exact ⟨h, by rw [← wrap_eq]; exact h⟩
theorem rows_slice {w : World} {lo hi : Nat} {v : Value} {us : List Value} {xss : List (List Int)} (h : OwnsRows w lo hi v us xss) : ∃ A c, v = .slice A xss.length c := by
  rcases h.outer.1.2 with ⟨rfl, hn⟩ | ⟨g, cap, cur, rfl, _⟩
  · exact ⟨none, 0, by rw [hn]⟩
  · exact ⟨_, _, rfl⟩


end Go.Proofs.YtellghhilcjbnaaDoor
