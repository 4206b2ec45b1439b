/-
  (impl.askers).isAbove, impl.MarketAbove.
-/
import Derived.Test.YtahilcnmjnjcaaaDoorReadStab
import Derived.Test.YtahilcnmjnjcaaaDoorCore1
import Derived.Deep.RegionLaw
namespace Go.Proofs.YtahilcnmjnjcaaaDoor
set_option linter.unusedVariables false
set_option linter.unusedSimpArgs false
open Go.RowKit

theorem above_q {ls : List (List Int)} {ps qs : List Int} {n : Nat} (h1 : 1 ≤ n) (h5 : n ≤ 5) (hl : ls.length = n) (hls : ∀ l ∈ ls, rankB n l = true) (hp : rankB n ps = true) (hq : rankB n qs = true) {k m h : Nat} (hk : k < n) (hpl : k < ps.length) (hql : k < qs.length) (hm : ps[k] = (m : Int)) (hh : qs[k] = (h : Int)) :
    ∃ (hkl : k < (ls.map backOf).length) (h1 : h < (ls.map backOf)[k].length) (h2 : m < (ls.map backOf)[k].length), decide ((ls.map backOf)[k][h] < (ls.map backOf)[k][m]) = !aboveTo ls ps qs k := by
  have hkl : k < ls.length := by omega
  have hrl1 := (rank_parts (hls ls[k] (List.getElem_mem _))).1
  have hmn := (rank_parts hp).2.1 ps[k] (List.getElem_mem _)
  have hhn := (rank_parts hq).2.1 qs[k] (List.getElem_mem _)
  have el : (ls.map backOf)[k]'(by rw [List.length_map]; exact hkl) = backOf ls[k] := by simp
  have hll : ((ls.map backOf)[k]'(by rw [List.length_map]; exact hkl)).length = n := by rw [el, backOf_len, hrl1]
  refine ⟨by rw [List.length_map]; exact hkl, by omega, by omega, ?_⟩
  have q1 : ((ls.map backOf)[k]'(by rw [List.length_map]; exact hkl))[h]'(by omega) = (place ls[k] (h : Int) : Int) := by simp only [el]; exact back_get h1 h5 (hls _ (List.getElem_mem _)) _
  have q2 : ((ls.map backOf)[k]'(by rw [List.length_map]; exact hkl))[m]'(by omega) = (place ls[k] (m : Int) : Int) := by simp only [el]; exact back_get h1 h5 (hls _ (List.getElem_mem _)) _
  rw [q1, q2]
  unfold aboveTo
  have e1 : ls.getD k [] = ls[k] := by simp [List.getD, hkl]
  have e2 : ps.getD k 0 = ps[k] := by simp [List.getD, hpl]
  have e3 : qs.getD k 0 = qs[k] := by simp [List.getD, hql]
  rw [e1, e2, e3, hm, hh]
  by_cases hc : place ls[k] (m : Int) ≤ place ls[k] (h : Int)
  · rw [decide_eq_true hc, decide_eq_false (by omega)]; rfl
  · rw [decide_eq_false hc, decide_eq_true (by omega)]; rfl

set_option maxRecDepth 100000 in
set_option maxHeartbeats 4000000 in
theorem isAbove_any (w : World) (a b v u : Value) (ls : List (List Int)) (ps qs : List Int) (n : Nat) (h1 : 1 ≤ n) (h5 : n ≤ 5) (hl : ls.length = n) (hls : ∀ l ∈ ls, rankB n l = true) (hrp : rankB n ps = true) (hrq : rankB n qs = true)
    (hb : IntRows w b (ls.map backOf)) (hp : Ints w v ps) (hq : Ints w u qs) :
    Calls Tryd.prog 63 #[.agg (two a b), v, u] w fun e w' => e = .returned (.bool (aboveB ls ps qs)) ∧ Below w.heap.size w w' := by
  obtain ⟨W0, hW0⟩ : ∃ W0, w.alloc (.cells (two a b) 57) = W0 := ⟨_, rfl⟩
  have hb0 : Below w.heap.size w W0 := by rw [← hW0]; exact (Below.refl _ _).alloc (Nat.le_refl _) _
  have hbox : W0.heap[w.heap.size]? = some (.cells (two a b) 57 (0, 0)) := by rw [← hW0]; exact World.alloc_heap_new _ _
  have HB0 := Lib.hid (And.intro hb0 hbox)
  obtain ⟨A, cap, rfl, hm, hc⟩ := hp
  obtain ⟨B, capb, rfl, hmb, hcb⟩ := hq
  have hpl := (rank_parts hrp).1
  have hql := (rank_parts hrq).1
  have HC := Lib.hid hc
  have HCB := Lib.hid hcb
  have HB := Lib.hid hb
  have HF := Lib.hid (And.intro hl (And.intro hls (And.intro hrp (And.intro hrq (And.intro hpl hql)))))
  unfold maxLen at hm hmb
  clear hc hcb hb hl hls hrp hrq hpl hql hb0 hbox
  go_enter Tryd.func63, Tryd.ntmps63
  go_wp2
  clear hW0
  go_loopw [7, 10] (fun _ i wr => ∃ k : Nat, k ≤ ps.length ∧ i = .int .i64 k ∧ (∀ j, j < k → aboveTo ls ps qs j = true) ∧ Below W0.heap.size W0 wr) (fun _ i _ => ps.length - (intOf i).toNat)
  case atStart => exact ⟨0, by omega, rfl, fun j hj => by omega, Below.refl _ _⟩
  case round =>
    obtain ⟨k, hk, rfl, hall, hbw⟩ := hrel
    have HA := Lib.hid hall
    have HBW := Lib.hid hbw
    clear hall
    obtain ⟨hl, hls, hrp, hrq, hpl, hql⟩ := HF.out
    by_cases hlt : k < ps.length
    · have hkq : k < qs.length := by omega
      obtain ⟨b1, o1, rfl, hcell0⟩ := HC.out k hlt
      obtain ⟨b2, o2, rfl, hcell20⟩ := HCB.out k hkq
      have hpin := (rank_parts hrp).2.1 ps[k] (List.getElem_mem _)
      have hqin := (rank_parts hrq).2.1 qs[k] (List.getElem_mem _)
      obtain ⟨m, hmm⟩ : ∃ m : Nat, ps[k] = (m : Int) := ⟨ps[k].toNat, by omega⟩
      obtain ⟨h, hh⟩ : ∃ h : Nat, qs[k] = (h : Int) := ⟨qs[k].toNat, by omega⟩
      obtain ⟨q1, q2, q3, hdec⟩ := above_q h1 h5 hl hls hrp hrq (show k < n by omega) hlt hkq hmm hh
      rw [hmm] at hcell0
      rw [hh] at hcell20
      have hbR := step_below HB0.out.1 hbw
      have hcell := (hbR.cell (p := ⟨b1, o1 + k, none⟩) (World.block_lt_of_cell? w _ hcell0)).trans hcell0
      have hcell2 := (hbR.cell (p := ⟨b2, o2 + k, none⟩) (World.block_lt_of_cell? w _ hcell20)).trans hcell20
      have hkb := kept_obj hbw HB0.out.2
      obtain ⟨y0, y1, _, _⟩ := two_cells (w := wr.drew) hkb
      have f1 : wr.drew.cell? ⟨b1, o1 + k, none⟩ = some (.int .i64 (m : Int)) := hcell
      have f2 : wr.drew.cell? ⟨b2, o2 + k, none⟩ = some (.int .i64 (h : Int)) := hcell2
      have hki : (k : Int) < (ps.length : Int) := by omega
      have hki2 : (k : Int) < (qs.length : Int) := by omega
      have hk0 : (0 : Int) ≤ (k : Int) := by omega
      have hkn : k < ls.length := by omega
      cases hat : aboveTo ls ps qs k with
      | false =>
        rw [hat] at hdec
        have HPF := Lib.hid (prefers_q wr.drew a b (ls.map backOf) ((HB.out.below hbR).drewN 1) k h m q1 q2 q3 true hdec)
        have HNO := Lib.hid (aboveB_no hkn hat)
        clear hcell0 hcell20 hpin hqin hmm hh q1 q2 q3 hdec hbR hcell hcell2 hat hl hls hrp hrq hpl hql hbw
        go_wp2
        apply once_zero (fun (w' : World) => Below wr.heap.size wr w')
        case h1 =>
          go_region_law (go_simp; go_at_call 79; refine HPF.out.mono ?_; rintro e w3 ⟨rfl, hb3⟩)
          all_goals exact ⟨below_undrew hb3, rfl⟩
        intro w3 hb3
        go_wp2
        go_ret
        exact ⟨ret_bool HNO.out.symm, step_below HB0.out.1 (step_below HBW.out hb3)⟩
      | true =>
        rw [hat] at hdec
        have HPF := Lib.hid (prefers_q wr.drew a b (ls.map backOf) ((HB.out.below hbR).drewN 1) k h m q1 q2 q3 false hdec)
        have HY := Lib.hid hat
        clear hcell0 hcell20 hpin hqin hmm hh q1 q2 q3 hdec hbR hcell hcell2 hat hl hls hrp hrq hpl hql hbw
        go_wp2
        apply once_zero (fun (w' : World) => Below wr.heap.size wr w')
        case h1 =>
          go_region_law (go_simp; go_at_call 79; refine HPF.out.mono ?_; rintro e w3 ⟨rfl, hb3⟩)
          all_goals exact ⟨below_undrew hb3, rfl⟩
        intro w3 hb3
        have HB3 := Lib.hid hb3
        clear y0 y1 f1 f2 hb3
        go_wp2
        go_roundw
        case rel =>
          refine ⟨k + 1, by omega, by go_num, fun j hj => ?_, step_below HBW.out HB3.out⟩
          by_cases e : j = k
          · subst e; exact HY.out
          · exact HA.out j (by omega)
        case measure => simp [intOf]; omega
    · obtain rfl : k = ps.length := by omega
      have HY := Lib.hid (aboveB_yes (ls := ls) (ps := ps) (qs := qs) (fun i hi => HA.out i (by omega)))
      clear hl hls hrp hrq hpl hql
      go_wp2
      go_ret
      exact ⟨ret_bool HY.out.symm, step_below HB0.out.1 hbw⟩

set_option maxRecDepth 100000 in
set_option maxHeartbeats 4000000 in
theorem implAbove_any (w : World) (L R v u : Value) (ls rs : List (List Int)) (ps qs : List Int) (hL : IntRows w L ls) (hR : IntRows w R rs) (hp : Ints w v ps) (hq : Ints w u qs) :
    Calls Tryd.prog 34 #[.agg (two L R), v, u] w fun e w' => e = .returned (.bool (aboveOk ls rs ps qs)) ∧ Below w.heap.size w w' := by
  obtain ⟨W0, hW0⟩ : ∃ W0, w.alloc (.cells (two L R) 28) = W0 := ⟨_, rfl⟩
  have hb0 : Below w.heap.size w W0 := by rw [← hW0]; exact (Below.refl _ _).alloc (Nat.le_refl _) _
  have hbox : W0.heap[w.heap.size]? = some (.cells (two L R) 28 (0, 0)) := by rw [← hW0]; exact World.alloc_heap_new _ _
  have HRS := Lib.hid (readStab_any W0 L R v u ls rs ps qs (hL.below hb0) (hR.below hb0) (hp.below hb0) (hq.below hb0))
  have HB0 := Lib.hid hb0
  clear hL hR hp hq hb0
  cases hok : bothB ls rs ps qs with
  | false =>
    have HNO : Hid (aboveOk ls rs ps qs = false) := Lib.hid (by
      unfold aboveOk
      unfold bothB at hok
      rw [← Bool.and_assoc, hok]; rfl)
    have HOK := Lib.hid hok
    clear hok
    go_enter Tryd.func34, Tryd.ntmps34
    go_wp2_with (refine load_mi rfl _ rfl w.heap.size L R rfl hbox ?_)
    clear hW0
    refine HRS.out.mono ?_
    rintro e w1 ⟨a1, a2, a3, a4, p, q, rfl, hb1, ⟨⟨A1, n1, c1, rfl⟩, ⟨A2, n2, c2, rfl⟩, ⟨A3, n3, c3, rfl⟩, ⟨A4, n4, c4, rfl⟩, ⟨Ap, np, cp, rfl⟩, ⟨Aq, nq, cq, rfl⟩⟩, -⟩
    rw [HOK.out]
    have hb12 : Below w1.heap.size w1 (w1.alloc (.cells (four (.slice A1 n1 c1) (.slice A2 n2 c2) (.slice A3 n3 c3) (.slice A4 n4 c4)) 60)) := (Below.refl _ _).alloc (Nat.le_refl _) _
    have HB2 := Lib.hid (step_below (step_below HB0.out hb1) hb12)
    clear hb1 hb12
    go_wp2
    go_ret
    exact ⟨ret_bool HNO.out.symm, HB2.out⟩
  | true =>
    have hst : stableB ls rs ps = true ∧ stableB ls rs qs = true := by unfold bothB at hok; rwa [Bool.and_eq_true] at hok
    have HEQ : Hid (aboveOk ls rs ps qs = aboveB ls ps qs) := Lib.hid (by unfold aboveOk; rw [hst.1, hst.2]; rfl)
    obtain ⟨h1, h5, hrl, hpl, hls, hrs, hpr⟩ := pair_parts (stable_parts hst.1).1
    obtain ⟨_, _, _, _, _, _, hqr⟩ := pair_parts (stable_parts hst.2).1
    have HFA := Lib.hid (And.intro hls (And.intro hpr hqr))
    have HOK := Lib.hid hok
    clear hok hst hrl hpl hls hrs hpr hqr
    go_enter Tryd.func34, Tryd.ntmps34
    go_wp2_with (refine load_mi rfl _ rfl w.heap.size L R rfl hbox ?_)
    clear hW0
    refine HRS.out.mono ?_
    rintro e w1 ⟨a1, a2, a3, a4, p, q, rfl, hb1, ⟨⟨A1, n1, c1, rfl⟩, ⟨A2, n2, c2, rfl⟩, ⟨A3, n3, c3, rfl⟩, ⟨A4, n4, c4, rfl⟩, ⟨Ap, np, cp, rfl⟩, ⟨Aq, nq, cq, rfl⟩⟩, hat⟩
    obtain ⟨hat1, hp1, hq1⟩ := hat HOK.out
    rw [HOK.out]
    obtain ⟨W2, hW2⟩ : ∃ W2, w1.alloc (.cells (four (.slice A1 n1 c1) (.slice A2 n2 c2) (.slice A3 n3 c3) (.slice A4 n4 c4)) 60) = W2 := ⟨_, rfl⟩
    have hb12 : Below w1.heap.size w1 W2 := by rw [← hW2]; exact (Below.refl _ _).alloc (Nat.le_refl _) _
    have hcur2 : W2.heap[w1.heap.size]? = some (.cells (four (.slice A1 n1 c1) (.slice A2 n2 c2) (.slice A3 n3 c3) (.slice A4 n4 c4)) 60 (0, 0)) := by rw [← hW2]; exact World.alloc_heap_new _ _
    obtain ⟨z0, z1, z2, z3, _⟩ := four_cells hcur2
    have HB2 := Lib.hid (step_below (step_below HB0.out hb1) hb12)
    have HAB := Lib.hid (isAbove_any W2 (.slice A1 n1 c1) (.slice A2 n2 c2) (.slice Ap np cp) (.slice Aq nq cq) ls ps qs ls.length h1 h5 rfl HFA.out.1 HFA.out.2.1 HFA.out.2.2 ((hat1.below hb12).left) (hp1.below hb12) (hq1.below hb12))
    clear hat hat1 hp1 hq1 hb1 hb12 hbox hcur2
    go_wp2_with (go_at_call 63; refine HAB.out.mono ?_; rintro e w3 ⟨rfl, hb3⟩)
    go_ret
    exact ⟨ret_bool HEQ.out.symm, step_below HB2.out hb3⟩

end Go.Proofs.YtahilcnmjnjcaaaDoor
