/-
  COSTS OF PAIRINGS: sums of places; impl's and spec's MarketCost.
-/
import Derived.Test.YtjbgjebbfkhidaaRank1
import Derived.Test.YtjbgjebbfkhidaaReadPair
import Derived.Test.YtjbgjebbfkhidaaCore1
namespace Go.Proofs.Ytjbgjebbfkhidaa
set_option linter.unusedVariables false
set_option linter.unusedSimpArgs false
open Go.RowKit

def sumI (f : Nat → Int) (n : Nat) : Int := ((List.range n).map f).sum
theorem sumI_zero (f : Nat → Int) : sumI f 0 = 0 := rfl
theorem sumI_succ (f : Nat → Int) (n : Nat) : sumI f (n + 1) = sumI f n + f n := by simp [sumI, List.range_succ]
theorem sumI_congr {f g : Nat → Int} {n : Nat} (h : ∀ i, i < n → f i = g i) : sumI f n = sumI g n := by
  unfold sumI
  congr 1
  apply List.map_congr_left
  intro i hi
  exact h i (List.mem_range.1 hi)
theorem sumI_le {f : Nat → Int} : ∀ {n : Nat}, (∀ i, i < n → 0 ≤ f i ∧ f i ≤ 5) → 0 ≤ sumI f n ∧ sumI f n ≤ 5 * (n : Int)
  | 0, _ => by simp [sumI]
  | n + 1, h => by
    have := sumI_le (f := f) (n := n) (fun i hi => h i (by omega))
    have := h n (by omega)
    rw [sumI_succ]
    omega

/-- The places of all partners, of the left side and of the right side. -/
def costL (ls : List (List Int)) (xs : List Int) (i : Nat) : Int := (place (ls.getD i []) (xs.getD i 0) : Nat)
def costR (rs : List (List Int)) (xs : List Int) (i : Nat) : Int := (place (rs.getD (xs.getD i 0).toNat []) (i : Int) : Nat)
/-- What a table of places says of a pairing. -/
def costP (ys : List (List Int)) (ps : List Int) (i : Nat) : Int := (ys.getD i []).getD (ps.getD i 0).toNat 0

theorem back_bounds {n : Nat} (h1 : 1 ≤ n) (h5 : n ≤ 5) {xs : List Int} (h : rankB n xs = true) : ∀ z ∈ backOf xs, 0 ≤ z ∧ z ≤ 5 := by
  intro z hz
  obtain ⟨k, hk, rfl⟩ := List.getElem_of_mem hz
  have hl := (rank_parts h).1
  rw [backOf_len, hl] at hk
  have := back_place h1 h5 h hk
  rw [List.getD_eq_getElem?_getD, List.getElem?_eq_getElem (by rw [backOf_len, hl]; exact hk), Option.getD_some] at this
  rw [this]
  have := place_le xs (k : Int)
  omega
theorem back_in {n : Nat} (h1 : 1 ≤ n) (h5 : n ≤ 5) {xs : List Int} (h : rankB n xs = true) : ∀ z ∈ backOf xs, 0 ≤ z ∧ z ≤ ((backOf xs).length : Int) - 1 := by
  intro z hz
  have hb := back_bounds h1 h5 h z hz
  obtain ⟨k, hk, rfl⟩ := List.getElem_of_mem hz
  have hl := (rank_parts h).1
  have hk' := hk
  rw [backOf_len, hl] at hk'
  have hp := back_perm h1 h5 h
  have hm : (k, ((backOf xs).getD k 0).toNat) ∈ (List.range n).map (fun i => ((xs.getD i 0).toNat, i)) := hp.subset (List.mem_map.2 ⟨k, List.mem_range.2 hk', rfl⟩)
  obtain ⟨i, hi, he⟩ := List.mem_map.1 hm
  rw [List.mem_range] at hi
  simp only [Prod.mk.injEq] at he
  have e : (backOf xs).getD k 0 = (backOf xs)[k] := by simp [List.getD, hk]
  rw [e] at he
  rw [backOf_len, hl]
  omega
theorem cost_left {ls : List (List Int)} {xs : List Int} {n : Nat} (h1 : 1 ≤ n) (h5 : n ≤ 5) (hl : ls.length = n) (hr : ∀ l ∈ ls, rankB n l = true) (hx : rankB n xs = true) : sumI (costP (ls.map backOf) xs) n = sumI (costL ls xs) n := by
  apply sumI_congr
  intro i hi
  obtain ⟨hxl, hxr, _⟩ := rank_parts hx
  have hxi := hxr (xs[i]'(by omega)) (List.getElem_mem _)
  unfold costP costL
  have e1 : (ls.map backOf).getD i [] = backOf (ls[i]'(by omega)) := by simp [List.getD, hl ▸ hi]
  have e2 : ls.getD i [] = ls[i]'(by omega) := by simp [List.getD, hl ▸ hi]
  have e3 : xs.getD i 0 = xs[i]'(by omega) := by simp [List.getD, hxl ▸ hi]
  rw [e1, e2, e3, back_place h1 h5 (hr _ (List.getElem_mem _)) (c := (xs[i]'(by omega)).toNat) (by omega)]
  congr 2
  omega
theorem cost_right {rs : List (List Int)} {xs : List Int} {n : Nat} (h1 : 1 ≤ n) (h5 : n ≤ 5) (hl : rs.length = n) (hr : ∀ r ∈ rs, rankB n r = true) (hx : rankB n xs = true) : sumI (costP (rs.map backOf) (backOf xs)) n = sumI (costR rs xs) n := by
  obtain ⟨hxl, hxr, _⟩ := rank_parts hx
  have hb := back_in h1 h5 hx
  rw [backOf_len, hxl] at hb
  have e0 : sumI (costP (rs.map backOf) (backOf xs)) n = sumI (fun k => (fun p : Nat × Nat => (place (rs.getD p.1 []) (p.2 : Int) : Int)) (k, ((backOf xs).getD k 0).toNat)) n := by
    apply sumI_congr
    intro i hi
    have hbl : i < (backOf xs).length := by rw [backOf_len, hxl]; exact hi
    have hbi := hb ((backOf xs)[i]'hbl) (List.getElem_mem _)
    unfold costP
    have e1 : (rs.map backOf).getD i [] = backOf (rs[i]'(by omega)) := by simp [List.getD, hl ▸ hi]
    have e2 : rs.getD i [] = rs[i]'(by omega) := by simp [List.getD, hl ▸ hi]
    have e3 : (backOf xs).getD i 0 = (backOf xs)[i]'hbl := by simp [List.getD, hbl]
    simp only
    rw [e1, e2, e3, back_place h1 h5 (hr _ (List.getElem_mem _)) (c := ((backOf xs)[i]'hbl).toNat) (by omega)]
  rw [e0]
  unfold sumI
  have hp := perm_sum (fun p : Nat × Nat => (place (rs.getD p.1 []) (p.2 : Int) : Int)) (back_perm h1 h5 hx)
  rw [List.map_map, List.map_map] at hp
  exact hp

set_option maxRecDepth 100000 in
set_option maxHeartbeats 2000000 in
theorem cost_any (w : World) (a b v : Value) (ys : List (List Int)) (ps : List Int) (hb : IntRows w b ys) (hp : Ints w v ps) (h5 : ps.length ≤ 5) (hy : ys.length = ps.length) (hin : ∀ x ∈ ps, 0 ≤ x ∧ x ≤ (ps.length : Int) - 1) (hrow : ∀ y ∈ ys, y.length = ps.length ∧ ∀ z ∈ y, 0 ≤ z ∧ z ≤ 5) :
    Calls Try.prog 41 #[.agg (two a b), v] w fun e w' => e = .returned (.int .i64 (sumI (costP ys ps) ps.length)) ∧ Below w.heap.size w w' := by
  obtain ⟨A, cap, rfl, hm, hc⟩ := hp
  obtain ⟨B, capb, rfl, hmb, hcb⟩ := hb.at
  obtain ⟨W0, hW0⟩ : ∃ W0, w.alloc (.cells (two a (.slice B ys.length capb)) 49) = W0 := ⟨_, rfl⟩
  have hb0 : Below w.heap.size w W0 := by rw [← hW0]; exact (Below.refl _ _).alloc (Nat.le_refl _) _
  obtain ⟨x0, x1, xf, _⟩ := two_cells (show W0.heap[w.heap.size]? = some (.cells (two a (.slice B ys.length capb)) 49 (0, 0)) by rw [← hW0]; exact World.alloc_heap_new _ _)
  have HC := Lib.hid hc
  have HCB := Lib.hid hcb
  have HB0 := Lib.hid hb0
  have HIN := Lib.hid hin
  have HROW := Lib.hid hrow
  have HY := Lib.hid hy
  have hf : ∀ i, i < ps.length → 0 ≤ costP ys ps i ∧ costP ys ps i ≤ 5 := by
    intro i hi
    have hyi : i < ys.length := by omega
    obtain ⟨hyl, hyz⟩ := hrow ys[i] (List.getElem_mem _)
    have hpi := hin ps[i] (List.getElem_mem _)
    unfold costP
    have e1 : ys.getD i [] = ys[i] := by simp [List.getD, hyi]
    have e2 : ps.getD i 0 = ps[i] := by simp [List.getD, hi]
    rw [e1, e2, List.getD_eq_getElem?_getD, List.getElem?_eq_getElem (by omega), Option.getD_some]
    exact hyz _ (List.getElem_mem _)
  have HFB := Lib.hid hf
  clear hc hcb hb0 hin hrow hf hy hb
  unfold maxLen at hm hmb
  go_enter Try.func41, Try.ntmps41
  go_wp2
  clear hW0
  go_loopw [5, 6, 7, 10] (fun s _ _ i wr => ∃ k : Nat, k ≤ ps.length ∧ i = .int .i64 k ∧ s = .int .i64 (sumI (costP ys ps) k) ∧ wr = W0) (fun _ _ _ i _ => ps.length - (intOf i).toNat)
  case atStart => exact ⟨0, by omega, rfl, rfl, rfl⟩
  case round =>
    obtain ⟨k, hk, rfl, rfl, hwr⟩ := hrel
    have hwr2 := hwr.symm
    clear hwr
    subst hwr2
    have hsl := sumI_le (f := costP ys ps) (n := k) (fun i hi => HFB.out i (by omega))
    by_cases hlt : k < ps.length
    · have hfk := HFB.out k hlt
      have hss := sumI_succ (costP ys ps) k
      have hky : k < ys.length := by have := HY.out; omega
      obtain ⟨b1, o1, rfl, hcell0⟩ := HC.out k hlt
      obtain ⟨b2, o2, u, rfl, hcell20, hu0⟩ := HCB.out k hky
      obtain ⟨A3, cap3, rfl, hm3, hc3⟩ := hu0
      have hyl := (HROW.out ys[k] (List.getElem_mem _)).1
      have hpi := HIN.out ps[k] (List.getElem_mem _)
      obtain ⟨m, hmm⟩ : ∃ m : Nat, ps[k] = (m : Int) := ⟨ps[k].toNat, by omega⟩
      have hm5 : m < ys[k].length := by omega
      obtain ⟨b3, o3, rfl, hcell30⟩ := hc3 m hm5
      have hval : ys[k][m] = costP ys ps k := by
        unfold costP
        have e1 : ys.getD k [] = ys[k] := by simp [List.getD, hky]
        have e2 : ps.getD k 0 = ps[k] := by simp [List.getD, hlt]
        rw [e1, e2, hmm, Int.toNat_natCast, List.getD_eq_getElem?_getD, List.getElem?_eq_getElem hm5, Option.getD_some]
      rw [hmm] at hcell0
      rw [hval] at hcell30
      obtain ⟨z, hz⟩ : ∃ z, costP ys ps k = z := ⟨_, rfl⟩
      obtain ⟨s, hs⟩ : ∃ s, sumI (costP ys ps) k = s := ⟨_, rfl⟩
      obtain ⟨s2, hs2⟩ : ∃ s2, sumI (costP ys ps) (k + 1) = s2 := ⟨_, rfl⟩
      rw [hz] at hcell30 hfk hss
      rw [hs] at hsl hss ⊢
      rw [hs2] at hss
      have hcell := (HB0.out.cell (p := ⟨b1, o1 + k, none⟩) (World.block_lt_of_cell? w _ hcell0)).trans hcell0
      have hcell2 := (HB0.out.cell (p := ⟨b2, o2 + k, none⟩) (World.block_lt_of_cell? w _ hcell20)).trans hcell20
      have hcell3 := (HB0.out.cell (p := ⟨b3, o3 + m, none⟩) (World.block_lt_of_cell? w _ hcell30)).trans hcell30
      have hki : (k : Int) < (ps.length : Int) := by omega
      have hki2 : (k : Int) < (ys.length : Int) := by omega
      have hmi : (m : Int) < (ys[k].length : Int) := by omega
      have hk0 : (0 : Int) ≤ (k : Int) := by omega
      have hadd : s + z = s2 := by omega
      have hb1 : 0 ≤ s2 ∧ s2 ≤ 30 := by omega
      have HS2 := Lib.hid hs2
      unfold maxLen at hm3
      clear hcell0 hcell20 hcell30 hval hmm hpi hyl hc3 hz hs hs2 hss hsl hfk
      go_wp2
      go_roundw
      case rel => exact ⟨k + 1, by omega, by go_num, by rw [HS2.out], trivial⟩
      case measure => simp [intOf]; omega
    · obtain rfl : k = ps.length := by omega
      clear hsl
      go_wp2
      go_ret
      exact ⟨rfl, HB0.out⟩

end Go.Proofs.Ytjbgjebbfkhidaa
