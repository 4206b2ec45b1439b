/-
  NT: NarrowMath TurnMath.
-/
import Derived.Test.YtjbgjebbfkhidabDoorMoreMath
import Derived.Test.YtjbgjebbfkhidabDoorFinQNarrow
import Derived.Test.YtjbgjebbfkhidabDoorQTurned
import Derived.Test.YtjbgjebbfkhidabDoorRnk
/-
  THE NARROWEST CHOICE TOUCHES ITS NUMBER, AND NO CHOICE STAYS BELOW IT: plain functions.
-/
namespace Go.Proofs.YtjbgjebbfkhidabDoor
set_option linter.unusedVariables false
set_option linter.unusedSimpArgs false
open Go.RowKit

def entI (xss : List (List Int)) (ps : List Int) (k : Nat) : Int := (xss.getD k []).getD (ps.getD k 0).toNat 0
def anyTo (p : Nat → Bool) : Nat → Bool
  | 0 => false
  | k + 1 => anyTo p k || p k
theorem anyTo_yes {p : Nat → Bool} : ∀ {n j : Nat}, j < n → p j = true → anyTo p n = true
  | n + 1, j, h, hp => by
    show (anyTo p n || p n) = true
    by_cases e : j = n
    · rw [← e, hp, Bool.or_true]
    · rw [anyTo_yes (show j < n by omega) hp, Bool.true_or]
theorem wide_ge (xss : List (List Int)) (ps : List Int) : ∀ {k j : Nat}, j < k → entI xss ps j ≤ wideTo xss ps k
  | k + 1, j, h => by
    show _ ≤ max (wideTo xss ps k) (entI xss ps k)
    by_cases e : j = k
    · rw [e]; omega
    · have := wide_ge xss ps (show j < k by omega); omega
theorem wide_hit {xss : List (List Int)} {ps : List Int} (h : Choice xss ps) : ∀ {k : Nat}, 0 < k → k ≤ ps.length → ∃ j, j < k ∧ entI xss ps j = wideTo xss ps k
  | k + 1, _, hk => by
    obtain ⟨m, hk2, hm, -, -, he, hb1, hb2⟩ := h.at (show k < ps.length by omega)
    have hw : wideTo xss ps (k + 1) = max (wideTo xss ps k) (entI xss ps k) := rfl
    rcases Nat.eq_zero_or_pos k with h0 | h0
    · subst h0
      refine ⟨0, by omega, ?_⟩
      rw [hw]
      have e1 : entI xss ps 0 = xss[0][m] := he
      have e2 : wideTo xss ps 0 = minI := rfl
      rw [e1, e2]
      unfold minI
      omega
    · obtain ⟨j, hj, hje⟩ := wide_hit h h0 (by omega)
      by_cases hc : wideTo xss ps k ≤ entI xss ps k
      · exact ⟨k, by omega, by rw [hw]; omega⟩
      · exact ⟨j, by omega, by rw [hw]; omega⟩
theorem narrow_facts {xss : List (List Int)} (h : cIn xss = true) : Choice xss (nqOf xss) ∧ Choice xss (lqOf xss) ∧ (∀ j, j < xss.length → entI xss (nqOf xss) j ≤ nqC xss) ∧
    anyTo (fun j => entI xss (nqOf xss) j == nqC xss) xss.length = true ∧ anyTo (fun j => decide (nqC xss ≤ entI xss (lqOf xss) j)) xss.length = true := by
  obtain ⟨h1, h6⟩ := cIn_size h
  have e1 : nqOf xss = leastI (wide8 xss) xss.length := if_pos h
  have e2 : nqC xss = wide8 xss (nqOf xss) := by rw [e1]; exact if_pos h
  have r1 := leastI_rank (wide8 xss) h1 h6
  have r2 := leastI_rank (cost8 xss) h1 h6
  have c1 : Choice xss (nqOf xss) := by rw [e1]; exact choice_of h r1
  have c2 : Choice xss (lqOf xss) := by rw [(lq_of h).1]; exact choice_of h r2
  have hle : nqC xss ≤ wide8 xss (lqOf xss) := by rw [e2, e1, (lq_of h).1]; exact leastI_le (wide8 xss) h1 h6 r2
  refine ⟨c1, c2, fun j hj => ?_, ?_, ?_⟩
  · rw [e2]; exact wide_ge xss _ (by rw [c1.len]; exact hj)
  · obtain ⟨j, hj, hje⟩ := wide_hit c1 (k := (nqOf xss).length) (by rw [c1.len]; exact h1) (Nat.le_refl _)
    refine anyTo_yes (by rw [c1.len] at hj; exact hj) ?_
    rw [e2]
    exact beq_iff_eq.2 hje
  · obtain ⟨j, hj, hje⟩ := wide_hit c2 (k := (lqOf xss).length) (by rw [c2.len]; exact h1) (Nat.le_refl _)
    refine anyTo_yes (by rw [c2.len] at hj; exact hj) ?_
    rw [decide_eq_true_iff, hje]
    exact hle

end Go.Proofs.YtjbgjebbfkhidabDoor

/-
  COSTS TURNED: the least cost and the least greatest cost stay. Plain functions.
-/
namespace Go.Proofs.YtjbgjebbfkhidabDoor
set_option linter.unusedVariables false
set_option linter.unusedSimpArgs false
open Go.RowKit

theorem bk_1 : ∀ a : Fin 1, scanB 1 (fins [a]) = true → rankB 1 (backOf (fins [a])) = true := by decide +kernel
theorem bk_2 : ∀ a b : Fin 2, scanB 3 (fins [a, b]) = true → rankB 2 (backOf (fins [a, b])) = true := by decide +kernel
theorem bk_3 : ∀ a b c : Fin 3, scanB 7 (fins [a, b, c]) = true → rankB 3 (backOf (fins [a, b, c])) = true := by decide +kernel
theorem bk_4 : ∀ a b c d : Fin 4, scanB 15 (fins [a, b, c, d]) = true → rankB 4 (backOf (fins [a, b, c, d])) = true := by decide +kernel
/-- A ranking of at most four turned is one. -/
theorem rank_back {n : Nat} (h1 : 1 ≤ n) (h5 : n ≤ 4) {xs : List Int} (h : rankB n xs = true) : rankB n (backOf xs) = true := by
  obtain ⟨hl, hin, _⟩ := rank_parts h
  rw [rank_scan h1 (by omega), Bool.and_eq_true] at h
  obtain ⟨l, hll, rfl⟩ := to_fins (n := n) xs (fun x hx => by unfold inR; rw [decide_eq_true_iff]; exact hin x hx)
  rw [hl] at hll
  have hs := h.2
  clear hin hl h
  have hn : n = 1 ∨ n = 2 ∨ n = 3 ∨ n = 4 := by omega
  rcases hn with rfl | rfl | rfl | rfl
  · obtain ⟨a, rfl⟩ := len1 hll; exact bk_1 a hs
  · obtain ⟨a, b, rfl⟩ := len2 hll; exact bk_2 a b hs
  · obtain ⟨a, b, c, rfl⟩ := len3 hll; exact bk_3 a b c hs
  · obtain ⟨a, b, c, d, rfl⟩ := len4 hll; exact bk_4 a b c d hs
theorem trs_getD (xss : List (List Int)) {k : Nat} (hk : k < xss.length) : (trs xss).getD k [] = trRow xss k := by simp [trs, List.getD, hk]
theorem ent_tr (xss : List (List Int)) {k i : Nat} (hk : k < xss.length) (hi : i < xss.length) : ((trs xss).getD k []).getD i 0 = (xss.getD i []).getD k 0 := by
  rw [trs_getD xss hk]
  simp [trRow, List.getD, hi]
theorem cIn_at {xss : List (List Int)} (h : cIn xss = true) {k : Nat} (hk : k < xss.length) : xss[k].length = xss.length ∧ ∀ x ∈ xss[k], numC x = true := by
  unfold cIn at h
  rw [Bool.and_eq_true, List.all_eq_true] at h
  have := h.1 _ (List.getElem_mem hk)
  unfold rowC at this
  rw [Bool.and_eq_true, decide_eq_true_iff, List.all_eq_true] at this
  exact this
theorem trs_in {xss : List (List Int)} (h : cIn xss = true) : cIn (trs xss) = true := by
  have hs := cIn_size h
  unfold cIn
  rw [Bool.and_eq_true, List.all_eq_true, decide_eq_true_iff, trs_len]
  refine ⟨fun r hr => ?_, hs⟩
  unfold trs at hr
  obtain ⟨k, hk, rfl⟩ := List.mem_map.1 hr
  rw [List.mem_range] at hk
  unfold rowC
  rw [Bool.and_eq_true, decide_eq_true_iff, List.all_eq_true]
  refine ⟨trRow_len xss k, fun x hx => ?_⟩
  unfold trRow at hx
  obtain ⟨i, hi, rfl⟩ := List.mem_map.1 hx
  rw [List.mem_range] at hi
  obtain ⟨hl, ha⟩ := cIn_at h hi
  have e : (xss.getD i []).getD k 0 = xss[i][k]'(by omega) := by
    rw [show xss.getD i [] = xss[i] by simp [List.getD, hi]]
    simp [List.getD, hl, hk]
  rw [e]
  exact ha _ (List.getElem_mem _)
theorem trs_twice {xss : List (List Int)} (h : cIn xss = true) : trs (trs xss) = xss := by
  refine List.ext_getElem (by rw [trs_len, trs_len]) fun k h1 h2 => ?_
  have hrow := (cIn_at h h2).1
  have e1 : (trs (trs xss))[k] = trRow (trs xss) k := by simp [trs]
  rw [e1]
  refine List.ext_getElem (by rw [trRow_len, trs_len, hrow]) fun i g1 g2 => ?_
  have hi : i < xss.length := by omega
  have e2 : (trRow (trs xss) k)[i] = ((trs xss).getD i []).getD k 0 := by simp [trRow]
  rw [e2, ent_tr xss hi h2]
  rw [show xss.getD k [] = xss[k] by simp [List.getD, h2]]
  simp [List.getD, hrow, hi]
theorem cost_sum (xss : List (List Int)) (ps : List Int) : ∀ k, costTo xss ps k = ((List.range k).map (entI xss ps)).sum
  | 0 => rfl
  | k + 1 => by
    rw [List.range_succ, List.map_append, List.sum_append, ← cost_sum xss ps k]
    simp [costTo, entI]
/-- The number at a pair. -/
def pairN (xss : List (List Int)) (p : Nat × Nat) : Int := (xss.getD p.2 []).getD p.1 0
theorem rank_lt {n : Nat} {ps : List Int} (h : rankB n ps = true) {k : Nat} (hk : k < n) : (ps.getD k 0).toNat < n := by
  obtain ⟨hl, hin, -⟩ := rank_parts h
  have hk' : k < ps.length := by omega
  have := hin _ (List.getElem_mem hk')
  rw [show ps.getD k 0 = ps[k] by simp [List.getD, hk']]
  omega
theorem ent_back {xss : List (List Int)} {ps : List Int} (h1 : 1 ≤ xss.length) (h5 : xss.length ≤ 4) (h : rankB xss.length ps = true) {k : Nat} (hk : k < xss.length) : entI (trs xss) (backOf ps) k = pairN xss (k, ((backOf ps).getD k 0).toNat) :=
  ent_tr xss hk (rank_lt (rank_back h1 h5 h) hk)
theorem cost_tr {xss : List (List Int)} {ps : List Int} (h1 : 1 ≤ xss.length) (h5 : xss.length ≤ 4) (h : rankB xss.length ps = true) : cost8 (trs xss) (backOf ps) = cost8 xss ps := by
  have hl := (rank_parts h).1
  unfold cost8
  rw [backOf_len, cost_sum, cost_sum, hl]
  have hp := perm_sum (pairN xss) (back_perm h1 (by omega) h)
  rw [List.map_map, List.map_map] at hp
  have e1 : (List.range xss.length).map (entI (trs xss) (backOf ps)) = (List.range xss.length).map (pairN xss ∘ fun k => (k, ((backOf ps).getD k 0).toNat)) :=
    List.map_congr_left fun k hk => ent_back h1 h5 h (List.mem_range.1 hk)
  rw [e1]
  exact hp
theorem wide_tr {xss : List (List Int)} {ps : List Int} (hc : cIn xss = true) (h5 : xss.length ≤ 4) (h : rankB xss.length ps = true) : wide8 (trs xss) (backOf ps) ≤ wide8 xss ps := by
  obtain ⟨h1, h6⟩ := cIn_size hc
  have hl := (rank_parts h).1
  have hb := rank_back h1 h5 h
  have hC : Choice (trs xss) (backOf ps) := choice_of (trs_in hc) (by rw [trs_len]; exact hb)
  obtain ⟨j, hj, hje⟩ := wide_hit hC (k := (backOf ps).length) (by rw [backOf_len, hl]; exact h1) (Nat.le_refl _)
  have hjn : j < xss.length := by rw [backOf_len, hl] at hj; exact hj
  show wideTo (trs xss) (backOf ps) (backOf ps).length ≤ _
  rw [← hje, ent_back h1 h5 h hjn]
  have hm : (j, ((backOf ps).getD j 0).toNat) ∈ (List.range xss.length).map (fun i => ((ps.getD i 0).toNat, i)) :=
    (back_perm h1 (by omega) h).subset (List.mem_map.2 ⟨j, List.mem_range.2 hjn, rfl⟩)
  obtain ⟨i, hi, he⟩ := List.mem_map.1 hm
  rw [← he]
  exact wide_ge xss ps (show i < ps.length by rw [hl]; exact List.mem_range.1 hi)
theorem lq_tr_le {xss : List (List Int)} (hc : cIn xss = true) (h5 : xss.length ≤ 4) : lqC (trs xss) ≤ lqC xss := by
  obtain ⟨h1, h6⟩ := cIn_size hc
  have ht := trs_in hc
  have r := leastI_rank (cost8 xss) h1 h6
  rw [(lq_of ht).2.1, (lq_of ht).1, (lq_of hc).2.1, (lq_of hc).1, ← cost_tr h1 h5 r]
  refine leastI_le (cost8 (trs xss)) (by rw [trs_len]; exact h1) (by rw [trs_len]; exact h6) ?_
  rw [trs_len]
  exact rank_back h1 h5 r
theorem nq_tr_le {xss : List (List Int)} (hc : cIn xss = true) (h5 : xss.length ≤ 4) : nqC (trs xss) ≤ nqC xss := by
  obtain ⟨h1, h6⟩ := cIn_size hc
  have ht := trs_in hc
  have r := leastI_rank (wide8 xss) h1 h6
  have e1 : nqC xss = wide8 xss (leastI (wide8 xss) xss.length) := if_pos hc
  have e2 : nqC (trs xss) = wide8 (trs xss) (leastI (wide8 (trs xss)) (trs xss).length) := if_pos ht
  rw [e1, e2]
  refine Int.le_trans (leastI_le (wide8 (trs xss)) (by rw [trs_len]; exact h1) (by rw [trs_len]; exact h6) (xs := backOf (leastI (wide8 xss) xss.length)) ?_) (wide_tr hc h5 r)
  rw [trs_len]
  exact rank_back h1 h5 r
theorem lq_tr {xss : List (List Int)} (hc : cIn xss = true) (h5 : xss.length ≤ 4) : lqC (trs xss) = lqC xss ∧ nqC (trs xss) = nqC xss := by
  have a := lq_tr_le hc h5
  have b := nq_tr_le hc h5
  have c := lq_tr_le (trs_in hc) (by rw [trs_len]; exact h5)
  have d := nq_tr_le (trs_in hc) (by rw [trs_len]; exact h5)
  rw [trs_twice hc] at c d
  omega

end Go.Proofs.YtjbgjebbfkhidabDoor

