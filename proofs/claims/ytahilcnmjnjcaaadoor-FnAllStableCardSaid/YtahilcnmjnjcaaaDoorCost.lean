/-
  COSTS OF PAIRINGS: sums of places; impl's and spec's MarketCost.
-/
import Derived.Test.YtahilcnmjnjcaaaDoorRank1
import Derived.Test.YtahilcnmjnjcaaaDoorReadPair
import Derived.Test.YtahilcnmjnjcaaaDoorCore1
namespace Go.Proofs.YtahilcnmjnjcaaaDoor
set_option linter.unusedVariables false
set_option linter.unusedSimpArgs false
open Go.RowKit

def sumI (f : Nat → Int) (n : Nat) : Int := ((List.range n).map f).sum
theorem sumI_zero (f : Nat → Int) : sumI f 0 = 0 := rfl
theorem sumI_succ (f : Nat → Int) (n : Nat) : sumI f (n + 1) = sumI f n + f n := by simp [sumI, List.range_succ]
theorem sumI_congr {f g : Nat → Int} {n : Nat} (h : ∀ i, i < n → f i = g i) : sumI f n = sumI g n := by
  unfold sumI
  congr 1
  apply List.map_congr_left
  intro i hi
  exact h i (List.mem_range.1 hi)
theorem sumI_le {f : Nat → Int} : ∀ {n : Nat}, (∀ i, i < n → 0 ≤ f i ∧ f i ≤ 5) → 0 ≤ sumI f n ∧ sumI f n ≤ 5 * (n : Int)
  | 0, _ => by simp [sumI]
  | n + 1, h => by
    have := sumI_le (f := f) (n := n) (fun i hi => h i (by omega))
    have := h n (by omega)
    rw [sumI_succ]
    omega

/-- The places of all partners, of the left side and of the right side. -/
def costL (ls : List (List Int)) (xs : List Int) (i : Nat) : Int := (place (ls.getD i []) (xs.getD i 0) : Nat)
def costR (rs : List (List Int)) (xs : List Int) (i : Nat) : Int := (place (rs.getD (xs.getD i 0).toNat []) (i : Int) : Nat)
/-- What a table of places says of a pairing. -/
def costP (ys : List (List Int)) (ps : List Int) (i : Nat) : Int := (ys.getD i []).getD (ps.getD i 0).toNat 0

theorem back_bounds {n : Nat} (h1 : 1 ≤ n) (h5 : n ≤ 5) {xs : List Int} (h : rankB n xs = true) : ∀ z ∈ backOf xs, 0 ≤ z ∧ z ≤ 5 := by
  intro z hz
  obtain ⟨k, hk, rfl⟩ := List.getElem_of_mem hz
  have hl := (rank_parts h).1
  rw [backOf_len, hl] at hk
  have := back_place h1 h5 h hk
  rw [List.getD_eq_getElem?_getD, List.getElem?_eq_getElem (by rw [backOf_len, hl]; exact hk), Option.getD_some] at this
  rw [this]
  have := place_le xs (k : Int)
  omega
theorem back_in {n : Nat} (h1 : 1 ≤ n) (h5 : n ≤ 5) {xs : List Int} (h : rankB n xs = true) : ∀ z ∈ backOf xs, 0 ≤ z ∧ z ≤ ((backOf xs).length : Int) - 1 := by
  intro z hz
  have hb := back_bounds h1 h5 h z hz
  obtain ⟨k, hk, rfl⟩ := List.getElem_of_mem hz
  have hl := (rank_parts h).1
  have hk' := hk
  rw [backOf_len, hl] at hk'
  have hp := back_perm h1 h5 h
  have hm : (k, ((backOf xs).getD k 0).toNat) ∈ (List.range n).map (fun i => ((xs.getD i 0).toNat, i)) := hp.subset (List.mem_map.2 ⟨k, List.mem_range.2 hk', rfl⟩)
  obtain ⟨i, hi, he⟩ := List.mem_map.1 hm
  rw [List.mem_range] at hi
  simp only [Prod.mk.injEq] at he
  have e : (backOf xs).getD k 0 = (backOf xs)[k] := by simp [List.getD, hk]
  rw [e] at he
  rw [backOf_len, hl]
  omega
theorem cost_left {ls : List (List Int)} {xs : List Int} {n : Nat} (h1 : 1 ≤ n) (h5 : n ≤ 5) (hl : ls.length = n) (hr : ∀ l ∈ ls, rankB n l = true) (hx : rankB n xs = true) : sumI (costP (ls.map backOf) xs) n = sumI (costL ls xs) n := by
  apply sumI_congr
  intro i hi
  obtain ⟨hxl, hxr, _⟩ := rank_parts hx
  have hxi := hxr (xs[i]'(by omega)) (List.getElem_mem _)
  unfold costP costL
  have e1 : (ls.map backOf).getD i [] = backOf (ls[i]'(by omega)) := by simp [List.getD, hl ▸ hi]
  have e2 : ls.getD i [] = ls[i]'(by omega) := by simp [List.getD, hl ▸ hi]
  have e3 : xs.getD i 0 = xs[i]'(by omega) := by simp [List.getD, hxl ▸ hi]
  rw [e1, e2, e3, back_place h1 h5 (hr _ (List.getElem_mem _)) (c := (xs[i]'(by omega)).toNat) (by omega)]
  congr 2
  omega
theorem cost_right {rs : List (List Int)} {xs : List Int} {n : Nat} (h1 : 1 ≤ n) (h5 : n ≤ 5) (hl : rs.length = n) (hr : ∀ r ∈ rs, rankB n r = true) (hx : rankB n xs = true) : sumI (costP (rs.map backOf) (backOf xs)) n = sumI (costR rs xs) n := by
  obtain ⟨hxl, hxr, _⟩ := rank_parts hx
  have hb := back_in h1 h5 hx
  rw [backOf_len, hxl] at hb
  have e0 : sumI (costP (rs.map backOf) (backOf xs)) n = sumI (fun k => (fun p : Nat × Nat => (place (rs.getD p.1 []) (p.2 : Int) : Int)) (k, ((backOf xs).getD k 0).toNat)) n := by
    apply sumI_congr
    intro i hi
    have hbl : i < (backOf xs).length := by rw [backOf_len, hxl]; exact hi
    have hbi := hb ((backOf xs)[i]'hbl) (List.getElem_mem _)
    unfold costP
    have e1 : (rs.map backOf).getD i [] = backOf (rs[i]'(by omega)) := by simp [List.getD, hl ▸ hi]
    have e2 : rs.getD i [] = rs[i]'(by omega) := by simp [List.getD, hl ▸ hi]
    have e3 : (backOf xs).getD i 0 = (backOf xs)[i]'hbl := by simp [List.getD, hbl]
    simp only
    rw [e1, e2, e3, back_place h1 h5 (hr _ (List.getElem_mem _)) (c := ((backOf xs)[i]'hbl).toNat) (by omega)]
  rw [e0]
  unfold sumI
  have hp := perm_sum (fun p : Nat × Nat => (place (rs.getD p.1 []) (p.2 : Int) : Int)) (back_perm h1 h5 hx)
  rw [List.map_map, List.map_map] at hp
  exact hp


end Go.Proofs.YtahilcnmjnjcaaaDoor
