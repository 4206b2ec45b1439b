/-
  (impl.askers).join and .meet, impl.MarketJoin and MarketMeet.
-/
import Derived.Test.YtjbgjebbfkhidaaRank1
import Derived.Test.YtjbgjebbfkhidaaPrefers
import Derived.Test.YtjbgjebbfkhidaaImplAbove
import Derived.Test.YtjbgjebbfkhidaaSpecChoose
namespace Go.Proofs.Ytjbgjebbfkhidaa
set_option linter.unusedVariables false
set_option linter.unusedSimpArgs false
open Go.RowKit

/-- What a list that is filled holds: the first k numbers, zeros behind them. -/
def fillTo (f : Nat → Int) (n k : Nat) : List Int := (List.range n).map (fun i => if i < k then f i else 0)
theorem fillTo_len (f : Nat → Int) (n k : Nat) : (fillTo f n k).length = n := by simp [fillTo]
theorem fillTo_set (f : Nat → Int) (n k : Nat) (h : k < n) : (fillTo f n k).set k (f k) = fillTo f n (k + 1) := by
  apply List.ext_getElem
  · simp [fillTo]
  · intro i h1 h2
    rw [List.getElem_set]
    simp only [fillTo, List.getElem_map, List.getElem_range]
    by_cases e : k = i
    · subst e; simp
    · rw [if_neg e]
      by_cases hlt : i < k
      · rw [if_pos hlt, if_pos (by omega)]
      · rw [if_neg hlt, if_neg (by omega)]
theorem fillTo_zero (f : Nat → Int) (n : Nat) : fillTo f n 0 = List.replicate n 0 := by
  apply List.ext_getElem
  · simp [fillTo]
  · intro i h1 h2; simp [fillTo]
theorem fillTo_all (f : Nat → Int) (n : Nat) : fillTo f n n = (List.range n).map f := by
  apply List.map_congr_left
  intro i hi
  rw [if_pos (List.mem_range.1 hi)]

theorem choose_q {ls : List (List Int)} {ps qs : List Int} {n : Nat} (h1 : 1 ≤ n) (h5 : n ≤ 5) (hl : ls.length = n) (hls : ∀ l ∈ ls, rankB n l = true) (hp : rankB n ps = true) (hq : rankB n qs = true) {k m h : Nat} (hk : k < n) (hpl : k < ps.length) (hql : k < qs.length) (hm : ps[k] = (m : Int)) (hh : qs[k] = (h : Int)) :
    ∃ (hkl : k < (ls.map backOf).length) (h1 : m < (ls.map backOf)[k].length) (h2 : h < (ls.map backOf)[k].length), (if (ls.map backOf)[k][h] < (ls.map backOf)[k][m] then (h : Int) else (m : Int)) = chooseAt ls ps qs true k ∧ (m : Int) + (h : Int) - chooseAt ls ps qs true k = chooseAt ls ps qs false k := by
  have hkl : k < ls.length := by omega
  have hrl1 := (rank_parts (hls ls[k] (List.getElem_mem _))).1
  have hmn := (rank_parts hp).2.1 ps[k] (List.getElem_mem _)
  have hhn := (rank_parts hq).2.1 qs[k] (List.getElem_mem _)
  have el : (ls.map backOf)[k]'(by rw [List.length_map]; exact hkl) = backOf ls[k] := by simp
  have hll : ((ls.map backOf)[k]'(by rw [List.length_map]; exact hkl)).length = n := by rw [el, backOf_len, hrl1]
  refine ⟨by rw [List.length_map]; exact hkl, by omega, by omega, ?_⟩
  have q1 : ((ls.map backOf)[k]'(by rw [List.length_map]; exact hkl))[h]'(by omega) = (place ls[k] (h : Int) : Int) := by simp only [el]; exact back_get h1 h5 (hls _ (List.getElem_mem _)) _
  have q2 : ((ls.map backOf)[k]'(by rw [List.length_map]; exact hkl))[m]'(by omega) = (place ls[k] (m : Int) : Int) := by simp only [el]; exact back_get h1 h5 (hls _ (List.getElem_mem _)) _
  rw [q1, q2]
  unfold chooseAt
  have e1 : ls.getD k [] = ls[k] := by simp [List.getD, hkl]
  have e2 : ps.getD k 0 = ps[k] := by simp [List.getD, hpl]
  have e3 : qs.getD k 0 = qs[k] := by simp [List.getD, hql]
  rw [e1, e2, e3, hm, hh]
  have hinj : place ls[k] (m : Int) = place ls[k] (h : Int) → m = h := fun e => by
    have := place_inj h1 h5 (hls _ (List.getElem_mem hkl)) (c := (m : Int)) (d := (h : Int)) (by rw [← hm]; exact hmn) (by rw [← hh]; exact hhn) e
    omega
  rcases Nat.lt_trichotomy (place ls[k] (m : Int)) (place ls[k] (h : Int)) with hc | hc | hc
  · rw [if_neg (by omega), decide_eq_true hc]
    first | (simp; done) | (simp; omega)
  · have := hinj hc
    subst this
    first | (simp; done) | (simp; omega)
  · rw [if_pos (by omega), decide_eq_false (by omega)]
    first | (simp; done) | (simp; omega)

set_option maxRecDepth 100000 in
set_option maxHeartbeats 4000000 in
theorem join_any (w : World) (a b v u : Value) (ls : List (List Int)) (ps qs : List Int) (n : Nat) (h1 : 1 ≤ n) (h5 : n ≤ 5) (hl : ls.length = n) (hls : ∀ l ∈ ls, rankB n l = true) (hrp : rankB n ps = true) (hrq : rankB n qs = true)
    (hb : IntRows w b (ls.map backOf)) (hp : Ints w v ps) (hq : Ints w u qs) :
    Calls Try.prog 43 #[.agg (two a b), v, u] w fun e w' => ∃ y, e = .returned y ∧ Below w.heap.size w w' ∧ Owns w' w.heap.size y (chooseTo ls ps qs true n) := by
  obtain ⟨A, cap, rfl, hm, hc⟩ := hp
  obtain ⟨B, capb, rfl, hmb, hcb⟩ := hq
  have hpl := (rank_parts hrp).1
  have hql := (rank_parts hrq).1
  have hmk := fun W => run_make_row' (P := Try.prog) 55 3 (.int .i64 0) 8 Try.underlying55 infoOrder rfl .i64 .i64 ps.length (by omega) (by omega) W
  obtain ⟨W0, hW0⟩ : ∃ W0, (w.alloc (.cells (two a b) 51)).alloc (.cells (madeCells #[Value.int .i64 0] ps.length) 3) = W0 := ⟨_, rfl⟩
  have hb0 : Below w.heap.size w W0 := by rw [← hW0]; exact ((Below.refl _ _).alloc (Nat.le_refl _) _).alloc (by simp) _
  have hbox : W0.heap[w.heap.size]? = some (.cells (two a b) 51 (0, 0)) := by rw [← hW0]; exact heap_two_old _ _ _
  have hown : W0.ownsRow w.heap.size 3 1 (.slice (some ⟨w.heap.size + 1, 0, none⟩) ps.length ps.length) ps.length (vals (fillTo (chooseAt ls ps qs true) ps.length 0)) := by
    rw [← hW0]
    have := World.ownsRow_lit (base := w.heap.size) (e := 3) (size := 1) (w.alloc (.cells (two a b) 51)) (madeCells #[Value.int .i64 0] ps.length) ps.length (by simp) hm (by simp [madeCells])
    rw [toList_madeCells_one, World.size_alloc] at this
    rw [fillTo_zero]
    simpa [vals] using this
  have HB0 := Lib.hid (And.intro hb0 (And.intro hbox hown))
  have HC := Lib.hid hc
  have HCB := Lib.hid hcb
  have HB := Lib.hid hb
  have HF := Lib.hid (And.intro hl (And.intro hls (And.intro hrp (And.intro hrq (And.intro hpl hql)))))
  unfold maxLen at hm hmb
  clear hc hcb hb hl hls hrp hrq hpl hql hb0 hbox hown
  go_enter Try.func43, Try.ntmps43
  go_wp2
  clear hW0 hmk
  go_loopw [8, 14] (fun _ i wr => ∃ k : Nat, k ≤ ps.length ∧ i = .int .i64 k ∧ Below w.heap.size w wr ∧ wr.heap[w.heap.size]? = some (.cells (two a b) 51 (0, 0)) ∧ wr.ownsRow w.heap.size 3 1 (.slice (some ⟨w.heap.size + 1, 0, none⟩) ps.length ps.length) ps.length (vals (fillTo (chooseAt ls ps qs true) ps.length k))) (fun _ i _ => ps.length - (intOf i).toNat)
  case atStart => exact ⟨0, by omega, rfl, HB0.out⟩
  case round =>
    obtain ⟨k, hk, rfl, hbw, hbx, ho⟩ := hrel
    have HST := Lib.hid (And.intro hbw (And.intro hbx ho))
    obtain ⟨hl, hls, hrp, hrq, hpl, hql⟩ := HF.out
    by_cases hlt : k < ps.length
    · have hkq : k < qs.length := by omega
      obtain ⟨b1, o1, rfl, hcell0⟩ := HC.out k hlt
      obtain ⟨b2, o2, rfl, hcell20⟩ := HCB.out k hkq
      have hpin := (rank_parts hrp).2.1 ps[k] (List.getElem_mem _)
      have hqin := (rank_parts hrq).2.1 qs[k] (List.getElem_mem _)
      obtain ⟨m, hmm⟩ : ∃ m : Nat, ps[k] = (m : Int) := ⟨ps[k].toNat, by omega⟩
      obtain ⟨h, hh⟩ : ∃ h : Nat, qs[k] = (h : Int) := ⟨qs[k].toNat, by omega⟩
      obtain ⟨q1, q2, q3, hdec, hsub⟩ := choose_q h1 h5 hl hls hrp hrq (show k < n by omega) hlt hkq hmm hh
      rw [hmm] at hcell0
      rw [hh] at hcell20
      have f1 : wr.drew.cell? ⟨b1, o1 + k, none⟩ = some (.int .i64 (m : Int)) := (hbw.cell (p := ⟨b1, o1 + k, none⟩) (World.block_lt_of_cell? w _ hcell0)).trans hcell0
      have f2 : wr.drew.cell? ⟨b2, o2 + k, none⟩ = some (.int .i64 (h : Int)) := (hbw.cell (p := ⟨b2, o2 + k, none⟩) (World.block_lt_of_cell? w _ hcell20)).trans hcell20
      obtain ⟨y0, y1, _, _⟩ := two_cells (w := wr.drew) hbx
      have hki : (k : Int) < (ps.length : Int) := by omega
      have hki2 : (k : Int) < (qs.length : Int) := by omega
      have hk0 : (0 : Int) ≤ (k : Int) := by omega
      obtain ⟨z, hz⟩ : ∃ z, chooseAt ls ps qs true k = z := ⟨_, rfl⟩
      rw [hz] at hdec hsub
      have hzb : 0 ≤ z ∧ z ≤ 10 := by rw [← hdec]; split <;> omega
      have HPF := Lib.hid (better_q wr.drew a b (ls.map backOf) ((HB.out.below hbw).drewN 1) k m h q1 q2 q3 z hdec)
      have hset : (vals (fillTo (chooseAt ls ps qs true) ps.length k)).set k (.int .i64 z) = vals (fillTo (chooseAt ls ps qs true) ps.length (k + 1)) := by
        have hfs := fillTo_set (chooseAt ls ps qs true) ps.length k hlt
        rw [hz] at hfs
        rw [← hfs]
        simp [vals, List.map_set]
      have HSET := Lib.hid hset
      clear hcell0 hcell20 hpin hqin hmm hh q1 q2 q3 hdec hsub hset hl hls hrp hrq hpl hql hbw hbx ho hz
      go_wp2
      apply once_zero (fun (w' : World) => Below w.heap.size w w' ∧ w'.heap[w.heap.size]? = some (.cells (two a b) 51 (0, 0)) ∧ w'.ownsRow w.heap.size 3 1 (.slice (some ⟨w.heap.size + 1, 0, none⟩) ps.length ps.length) ps.length (vals (fillTo (chooseAt ls ps qs true) ps.length (k + 1))))
      case h1 =>
        go_region_law (go_simp; go_at_call 59; refine HPF.out.mono ?_; rintro e w3 ⟨rfl, hb3⟩; have hB3 := below_undrew hb3; have ho3 := owns_below HST.out.2.2 hB3; have hf3 := ho3.frozenAt k; have f13 : w3.cell? ⟨b1, o1 + k, none⟩ = some (.int .i64 (m : Int)) := ((hB3.cell (p := ⟨b1, o1 + k, none⟩) (World.block_lt_of_cell? wr _ f1)).trans f1); have f23 : w3.cell? ⟨b2, o2 + k, none⟩ = some (.int .i64 (h : Int)) := ((hB3.cell (p := ⟨b2, o2 + k, none⟩) (World.block_lt_of_cell? wr _ f2)).trans f2); obtain ⟨v0, hv0⟩ : ∃ v0, w3.cell? ⟨w.heap.size + 1, k, none⟩ = some v0 := (by have hx := ho3.cellAt k (by omega); rw [hx, List.getElem?_eq_getElem (by rw [ho3.1]; omega)]; exact ⟨_, rfl⟩))
        all_goals
          refine ⟨⟨(step_below HST.out.1 hB3).setCell (p := ⟨w.heap.size + 1, k, none⟩) (by show w.heap.size ≤ w.heap.size + 1; omega) _, ?_, ?_⟩, rfl⟩
          · rw [heap_setCell_other _ _ _ _ (by show w.heap.size ≠ w.heap.size + 1; omega)]
            exact kept_obj hB3 HST.out.2.1
          · have hst := (ho3.stored k (.int .i64 z)).1
            rw [HSET.out] at hst
            exact hst
      rintro w3 hst3
      have HS3 := Lib.hid hst3
      clear hst3 y0 y1 f1 f2
      go_wp2
      go_roundw
      case rel => exact ⟨k + 1, by omega, by go_num, HS3.out⟩
      case measure => simp [intOf]; omega
    · obtain rfl : k = ps.length := by omega
      have HR : Hid (fillTo (chooseAt ls ps qs true) ps.length ps.length = chooseTo ls ps qs true n) := Lib.hid (by rw [fillTo_all, hpl]; rfl)
      have HL := Lib.hid hpl
      clear hl hls hrp hrq hpl hql hbw hbx ho
      go_wp2
      go_ret
      refine ⟨.slice (some ⟨w.heap.size + 1, 0, none⟩) ps.length ps.length, rfl, HST.out.1, ?_⟩
      have := HST.out.2.2
      rw [HR.out] at this
      show World.ownsRow _ _ _ _ _ (chooseTo ls ps qs true n).length _
      have e : (chooseTo ls ps qs true n).length = ps.length := by rw [chooseTo_len, HL.out]
      rw [e]
      exact this

set_option maxRecDepth 100000 in
set_option maxHeartbeats 4000000 in
theorem implJoin_any (w : World) (L R v u : Value) (ls rs : List (List Int)) (ps qs : List Int) (hL : IntRows w L ls) (hR : IntRows w R rs) (hp : Ints w v ps) (hq : Ints w u qs) :
    Calls Try.prog 19 #[.agg (two L R), v, u] w (GivesInts w (bothB ls rs ps qs) (chooseOf ls rs ps qs true)) := by
  obtain ⟨W0, hW0⟩ : ∃ W0, w.alloc (.cells (two L R) 25) = W0 := ⟨_, rfl⟩
  have hb0 : Below w.heap.size w W0 := by rw [← hW0]; exact (Below.refl _ _).alloc (Nat.le_refl _) _
  have hbox : W0.heap[w.heap.size]? = some (.cells (two L R) 25 (0, 0)) := by rw [← hW0]; exact World.alloc_heap_new _ _
  have HRS := Lib.hid (readStab_any W0 L R v u ls rs ps qs (hL.below hb0) (hR.below hb0) (hp.below hb0) (hq.below hb0))
  have HB0 := Lib.hid hb0
  clear hL hR hp hq hb0
  cases hok : bothB ls rs ps qs with
  | false =>
    have HEQ := Lib.hid (chooseOf_no (better := true) hok)
    have HOK := Lib.hid hok
    clear hok
    go_enter Try.func19, Try.ntmps19
    go_wp2_with (refine load_mi rfl _ rfl w.heap.size L R rfl hbox ?_)
    clear hW0
    refine HRS.out.mono ?_
    rintro e w1 ⟨a1, a2, a3, a4, p, q, rfl, hb1, ⟨⟨A1, n1, c1, rfl⟩, ⟨A2, n2, c2, rfl⟩, ⟨A3, n3, c3, rfl⟩, ⟨A4, n4, c4, rfl⟩, ⟨Ap, np, cp, rfl⟩, ⟨Aq, nq, cq, rfl⟩⟩, -⟩
    rw [HOK.out]
    have hb12 : Below w1.heap.size w1 (w1.alloc (.cells (four (.slice A1 n1 c1) (.slice A2 n2 c2) (.slice A3 n3 c3) (.slice A4 n4 c4)) 54)) := (Below.refl _ _).alloc (Nat.le_refl _) _
    have HB2 := Lib.hid (step_below (step_below HB0.out hb1) hb12)
    clear hb1 hb12
    go_wp2
    go_ret2
    rw [HEQ.out]
    exact gives_ints_no HB2.out
  | true =>
    have hst : stableB ls rs ps = true ∧ stableB ls rs qs = true := by unfold bothB at hok; rwa [Bool.and_eq_true] at hok
    have HEQ := Lib.hid (chooseOf_yes (better := true) hok)
    obtain ⟨h1, h5, hrl, hpl, hls, hrs, hpr⟩ := pair_parts (stable_parts hst.1).1
    obtain ⟨_, _, _, _, _, _, hqr⟩ := pair_parts (stable_parts hst.2).1
    have HFA := Lib.hid (And.intro hls (And.intro hpr hqr))
    have HOK := Lib.hid hok
    clear hok hst hrl hpl hls hrs hpr hqr
    go_enter Try.func19, Try.ntmps19
    go_wp2_with (refine load_mi rfl _ rfl w.heap.size L R rfl hbox ?_)
    clear hW0
    refine HRS.out.mono ?_
    rintro e w1 ⟨a1, a2, a3, a4, p, q, rfl, hb1, ⟨⟨A1, n1, c1, rfl⟩, ⟨A2, n2, c2, rfl⟩, ⟨A3, n3, c3, rfl⟩, ⟨A4, n4, c4, rfl⟩, ⟨Ap, np, cp, rfl⟩, ⟨Aq, nq, cq, rfl⟩⟩, hat⟩
    obtain ⟨hat1, hp1, hq1⟩ := hat HOK.out
    rw [HOK.out]
    obtain ⟨W2, hW2⟩ : ∃ W2, w1.alloc (.cells (four (.slice A1 n1 c1) (.slice A2 n2 c2) (.slice A3 n3 c3) (.slice A4 n4 c4)) 54) = W2 := ⟨_, rfl⟩
    have hb12 : Below w1.heap.size w1 W2 := by rw [← hW2]; exact (Below.refl _ _).alloc (Nat.le_refl _) _
    have hcur2 : W2.heap[w1.heap.size]? = some (.cells (four (.slice A1 n1 c1) (.slice A2 n2 c2) (.slice A3 n3 c3) (.slice A4 n4 c4)) 54 (0, 0)) := by rw [← hW2]; exact World.alloc_heap_new _ _
    obtain ⟨z0, z1, z2, z3, _⟩ := four_cells hcur2
    have HB2 := Lib.hid (step_below (step_below HB0.out hb1) hb12)
    have HAB := Lib.hid (join_any W2 (.slice A1 n1 c1) (.slice A2 n2 c2) (.slice Ap np cp) (.slice Aq nq cq) ls ps qs ls.length h1 h5 rfl HFA.out.1 HFA.out.2.1 HFA.out.2.2 ((hat1.below hb12).left) (hp1.below hb12) (hq1.below hb12))
    clear hat hat1 hp1 hq1 hb1 hb12 hbox hcur2
    go_wp2_with (go_at_call 43; refine HAB.out.mono ?_; rintro e w3 ⟨y, rfl, hb3, ho3⟩)
    go_ret2
    rw [HEQ.out]
    exact ⟨y, rfl, step_below HB2.out hb3, owns_mono ho3 HB2.out.size⟩

end Go.Proofs.Ytjbgjebbfkhidaa
