/-
  spec.MarketCost and impl.MarketCost.
-/
import Derived.Test.YtjbgjebbfkhidaaCost
import Derived.Test.YtjbgjebbfkhidaaCore1
import Derived.OwnWalk
namespace Go.Proofs.Ytjbgjebbfkhidaa
set_option linter.unusedVariables false
set_option linter.unusedSimpArgs false
open Go.RowKit

def GivesCost (w : World) (ls rs : List (List Int)) (xs : List Int) : Ending → World → Prop :=
  GivesNum2 w (pairOk ls rs xs) (if pairOk ls rs xs = true then sumI (costL ls xs) ls.length else 0) (if pairOk ls rs xs = true then sumI (costR rs xs) ls.length else 0)
theorem gives_cost_no {w W : World} {ls rs : List (List Int)} {xs : List Int} (h : pairOk ls rs xs = false) (hb : Below w.heap.size w W) : GivesCost w ls rs xs (.returned (.tuple #[.int .i64 0, .int .i64 0, .bool false])) W := by
  unfold GivesCost GivesNum2
  rw [h]
  exact ⟨rfl, hb⟩
theorem gives_cost_yes {w W : World} {ls rs : List (List Int)} {xs : List Int} (h : pairOk ls rs xs = true) (hb : Below w.heap.size w W) : GivesCost w ls rs xs (.returned (.tuple #[.int .i64 (sumI (costL ls xs) ls.length), .int .i64 (sumI (costR rs xs) ls.length), .bool true])) W := by
  unfold GivesCost GivesNum2
  rw [h]
  exact ⟨rfl, hb⟩
theorem pair_parts {ls rs : List (List Int)} {xs : List Int} (h : pairOk ls rs xs = true) : 1 ≤ ls.length ∧ ls.length ≤ 5 ∧ rs.length = ls.length ∧ xs.length = ls.length ∧ (∀ l ∈ ls, rankB ls.length l = true) ∧ (∀ r ∈ rs, rankB ls.length r = true) ∧ rankB ls.length xs = true := by
  unfold pairOk at h
  rw [Bool.and_eq_true] at h
  obtain ⟨⟨h1, h5, hl⟩, hs1, hs2⟩ := mktOk_parts h.1
  refine ⟨h1, h5, hl, (rank_parts h.2).1, List.all_eq_true.1 hs1, ?_, h.2⟩
  have := List.all_eq_true.1 hs2
  rw [hl] at this
  exact this

set_option maxRecDepth 100000 in
set_option maxHeartbeats 4000000 in
theorem specCost_any (w : World) (L R v : Value) (ls rs : List (List Int)) (xs : List Int) (hL : IntRows w L ls) (hR : IntRows w R rs) (hx : Ints w v xs) :
    Calls Try.prog 26 #[.agg (two L R), v] w (GivesCost w ls rs xs) := by
  obtain ⟨W0, hW0⟩ : ∃ W0, w.alloc (.cells (two L R) 25) = W0 := ⟨_, rfl⟩
  have hb0 : Below w.heap.size w W0 := by rw [← hW0]; exact (Below.refl _ _).alloc (Nat.le_refl _) _
  have hbox : W0.heap[w.heap.size]? = some (.cells (two L R) 25 (0, 0)) := by rw [← hW0]; exact World.alloc_heap_new _ _
  have HSM := Lib.hid (specMPair_any W0 L R v ls rs xs (hL.below hb0) (hR.below hb0) (hx.below hb0))
  have HB0 := Lib.hid hb0
  cases hok : pairOk ls rs xs with
  | false =>
    have HNO := Lib.hid hok
    rw [hok] at HSM
    clear hL hR hb0 hx hok
    go_enter Try.func26, Try.ntmps26
    go_wp2_with (refine load_mi rfl _ rfl w.heap.size L R rfl hbox ?_)
    clear hW0
    refine HSM.out.mono ?_
    rintro e w1 ⟨rfl, hb1⟩
    have HB1 := Lib.hid (step_below HB0.out hb1)
    clear hb1
    go_wp2
    go_ret3
    exact gives_cost_no HNO.out HB1.out
  | true =>
    obtain ⟨h1, h5, hrl, hxl, hls, hrs, hxr⟩ := pair_parts hok
    have HYES := Lib.hid hok
    rw [hok] at HSM
    obtain ⟨A, cap, rfl, hm, hc⟩ := hx
    obtain ⟨A1, cap1, hLe, hm1, hc1⟩ := hL.at
    obtain ⟨A2, cap2, hRe, hm2, hc2⟩ := hR.at
    have HLE := Lib.hid (And.intro hLe hRe)
    clear hLe hRe
    have HC := Lib.hid hc
    have HC1 := Lib.hid hc1
    have HC2 := Lib.hid hc2
    have hfl : ∀ i, i < ls.length → 0 ≤ costL ls xs i ∧ costL ls xs i ≤ 5 := by
      intro i hi
      have e1 : ls.getD i [] = ls[i] := by simp [List.getD, hi]
      have := place_le ls[i] (xs.getD i 0)
      have := (rank_parts (hls _ (List.getElem_mem hi))).1
      unfold costL
      rw [e1]
      omega
    have hfr : ∀ i, i < ls.length → 0 ≤ costR rs xs i ∧ costR rs xs i ≤ 5 := by
      intro i hi
      have e3 : xs.getD i 0 = xs[i]'(by omega) := by simp [List.getD, hxl ▸ hi]
      have hxi := (rank_parts hxr).2.1 (xs[i]'(by omega)) (List.getElem_mem _)
      have hj : (xs[i]'(by omega)).toNat < rs.length := by omega
      have e1 : rs.getD (xs[i]'(by omega)).toNat [] = rs[(xs[i]'(by omega)).toNat] := by simp [List.getD, hj]
      have := place_le rs[(xs[i]'(by omega)).toNat] (i : Int)
      have := (rank_parts (hrs _ (List.getElem_mem hj))).1
      unfold costR
      rw [e3, e1]
      omega
    have HF := Lib.hid (And.intro hfl hfr)
    have HLEN := Lib.hid (And.intro hrl (And.intro hxl (rank_parts hxr).2.1))
    clear hb0 hok hc hc1 hc2 hls hrs hxr hrl hfl hfr hL hR hxl
    unfold maxLen at hm hm1 hm2
    go_enter Try.func26, Try.ntmps26
    go_wp2_with (refine load_mi rfl _ rfl w.heap.size L R rfl hbox ?_)
    clear hW0
    refine HSM.out.mono ?_
    rintro e w1 ⟨rfl, hb1⟩
    have HB1 := Lib.hid (step_below HB0.out hb1)
    obtain ⟨x0, x1, xf, _⟩ := two_cells (kept_obj hb1 hbox)
    rw [HLE.out.1] at x0
    rw [HLE.out.2] at x1
    clear hb1 hbox
    go_wp2
    go_loopw [7, 8, 9] (fun a b i wr => ∃ k q : Nat, k ≤ xs.length ∧ i = .int .i64 k ∧ a = .int .i64 (sumI (costL ls xs) k) ∧ b = .int .i64 (sumI (costR rs xs) k) ∧ wr = w1.drewN q) (fun _ _ i _ => xs.length - (intOf i).toNat)
    case atStart => exact ⟨0, 0, by omega, rfl, rfl, rfl, rfl⟩
    case round =>
      obtain ⟨k, q, hk, rfl, rfl, rfl, hwr⟩ := hrel
      have HW := Lib.hid hwr
      obtain ⟨hrl, hxl, hin⟩ := HLEN.out
      have hsl := sumI_le (f := costL ls xs) (n := k) (fun i hi => HF.out.1 i (by omega))
      have hsr := sumI_le (f := costR rs xs) (n := k) (fun i hi => HF.out.2 i (by omega))
      by_cases hlt : k < xs.length
      · have hkl : k < ls.length := by omega
        obtain ⟨b1, o1, rfl, hcell0⟩ := HC.out k hlt
        have hxi := hin xs[k] (List.getElem_mem _)
        obtain ⟨m, hmm⟩ : ∃ m : Nat, xs[k] = (m : Int) := ⟨xs[k].toNat, by omega⟩
        have hmr : m < rs.length := by omega
        obtain ⟨b2, o2, u, rfl, hcell20, hu⟩ := HC1.out k hkl
        obtain ⟨b3, o3, u3, rfl, hcell30, hu3⟩ := HC2.out m hmr
        rw [hmm] at hcell0
        have hfl := HF.out.1 k hkl
        have hfr := HF.out.2 k hkl
        have hvl : (place ls[k] (m : Int) : Int) = costL ls xs k := by
          unfold costL
          have e1 : ls.getD k [] = ls[k] := by simp [List.getD, hkl]
          have e2 : xs.getD k 0 = xs[k] := by simp [List.getD, hlt]
          rw [e1, e2, hmm]
        have hvr : (place rs[m] (k : Int) : Int) = costR rs xs k := by
          unfold costR
          have e2 : xs.getD k 0 = xs[k] := by simp [List.getD, hlt]
          have e1 : rs.getD m [] = rs[m] := by simp [List.getD, hmr]
          rw [e2, hmm, Int.toNat_natCast, e1]
        have hsl2 := sumI_succ (costL ls xs) k
        have hsr2 := sumI_succ (costR rs xs) k
        obtain ⟨z, hz⟩ : ∃ z, costL ls xs k = z := ⟨_, rfl⟩
        obtain ⟨y, hy⟩ : ∃ y, costR rs xs k = y := ⟨_, rfl⟩
        obtain ⟨s, hs⟩ : ∃ s, sumI (costL ls xs) k = s := ⟨_, rfl⟩
        obtain ⟨t, ht⟩ : ∃ t, sumI (costR rs xs) k = t := ⟨_, rfl⟩
        rw [hz] at hfl hvl hsl2
        rw [hy] at hfr hvr hsr2
        rw [hs] at hsl hsl2 ⊢
        rw [ht] at hsr hsr2 ⊢
        have hHP1 := Lib.hid (fun (W : World) (hW : Below w.heap.size w W) => l6mPlace_q u ls[k] (m : Int) z hvl W (hu.below hW))
        have hHP2 := Lib.hid (fun (W : World) (hW : Below w.heap.size w W) => l6mPlace_q u3 rs[m] (k : Int) y hvr W (hu3.below hW))
        have hbw : Below w.heap.size w wr := by rw [hwr]; exact below_drewN HB1.out q
        have hcell := (hbw.cell (p := ⟨b1, o1 + k, none⟩) (World.block_lt_of_cell? w _ hcell0)).trans hcell0
        have hcell2 := (hbw.cell (p := ⟨b2, o2 + k, none⟩) (World.block_lt_of_cell? w _ hcell20)).trans hcell20
        have hcell3 := (hbw.cell (p := ⟨b3, o3 + m, none⟩) (World.block_lt_of_cell? w _ hcell30)).trans hcell30
        have y0 : wr.cell? ⟨w.heap.size, 0, none⟩ = some (.slice (some ⟨b2, o2, none⟩) ls.length cap1) := by rw [hwr]; exact x0
        have y1 : wr.cell? ⟨w.heap.size, 1, none⟩ = some (.slice (some ⟨b3, o3, none⟩) rs.length cap2) := by rw [hwr]; exact x1
        have hki : (k : Int) < (xs.length : Int) := by omega
        have hki2 : (k : Int) < (ls.length : Int) := by omega
        have hmi : (m : Int) < (rs.length : Int) := by omega
        have hk0 : (0 : Int) ≤ (k : Int) := by omega
        have HN := Lib.hid (And.intro hsl2 hsr2)
        have HBW := Lib.hid hbw
        have hz1 : s + z ≤ 30 ∧ 0 ≤ s + z := by omega
        have hy1 : t + y ≤ 30 ∧ 0 ≤ t + y := by omega
        clear hcell0 hcell20 hcell30 hmm hxi hvl hvr hz hy hs ht hsl2 hsr2 hu hu3 hwr hbw hin hrl hxl x0 x1
        go_wp2
        go_quiet ((go_at_call 40; with_reducible exact Calls.quiet_of_same (hHP1.out _ (below_drewN HBW.out _))))
        obtain ⟨wq, hwq⟩ : ∃ wq, wr.drewN nq = wq := ⟨_, rfl⟩
        have g2 : wq.cell? ⟨b1, o1 + k, none⟩ = some (.int .i64 (m : Int)) := by rw [← hwq]; exact hcell
        have g3 : wq.cell? ⟨b3, o3 + m, none⟩ = some u3 := by rw [← hwq]; exact hcell3
        have g4 : wq.cell? ⟨w.heap.size, 1, none⟩ = some (.slice (some ⟨b3, o3, none⟩) rs.length cap2) := by rw [← hwq]; exact y1
        have HBQ : Hid (Below w.heap.size w wq) := Lib.hid (by rw [← hwq]; exact below_drewN HBW.out nq)
        have HWQ : Hid (∃ p, wq = w1.drewN p) := Lib.hid ⟨q + nq, by rw [← hwq, HW.out]; simp⟩
        rw [hwq]
        clear hwq hcell hcell2 hcell3 y0 y1
        go_wp2
        go_quiet ((go_at_call 40; with_reducible exact Calls.quiet_of_same (hHP2.out _ (below_drewN HBQ.out _))))
        obtain ⟨wz, hwz⟩ : ∃ wz, wq.drewN nq = wz := ⟨_, rfl⟩
        have HWZ : Hid (∃ p, wz = w1.drewN p) := by
          obtain ⟨p, hp⟩ := HWQ.out
          exact Lib.hid ⟨p + nq, by rw [← hwz, hp]; simp⟩
        rw [hwz]
        clear hwz
        go_wp2
        go_roundw
        case rel =>
          obtain ⟨p, hp⟩ := HWZ.out
          exact ⟨k + 1, p, by omega, by go_num, by rw [HN.out.1], by rw [HN.out.2], hp⟩
        case measure => simp [intOf]; omega
      · obtain rfl : k = xs.length := by omega
        clear hsl hsr
        rw [hxl]
        clear hrl hxl hin hwr
        go_wp2
        go_ret3
        exact gives_cost_yes HYES.out (by rw [HW.out]; exact below_drewN HB1.out q)

end Go.Proofs.Ytjbgjebbfkhidaa
