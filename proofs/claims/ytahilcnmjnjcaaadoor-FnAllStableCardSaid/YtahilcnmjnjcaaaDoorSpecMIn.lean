/-
  spec.MarketIn, spec.MarketPairing.
-/
import Derived.Test.YtahilcnmjnjcaaaDoorRank1
import Derived.Test.YtahilcnmjnjcaaaDoorSide1
import Derived.Test.YtahilcnmjnjcaaaDoorMktL
namespace Go.Proofs.YtahilcnmjnjcaaaDoor
set_option linter.unusedVariables false
set_option linter.unusedSimpArgs false
open Go.RowKit

theorem mktOk_row {ls rs : List (List Int)} {k : Nat} (hk : k < ls.length) (hl : rs.length = ls.length) (h : rankB ls.length ls[k] = false ∨ rankB ls.length (rs[k]'(by omega)) = false) : mktOk ls rs = false := by
  by_cases h5 : 1 ≤ ls.length ∧ ls.length ≤ 5 ∧ rs.length = ls.length
  · rw [mktOk_sides h5.1 h5.2.1 h5.2.2]
    rcases h with h | h
    · rw [sideOk_no hk h]; rfl
    · rw [sideOk_no (xss := rs) (k := k) (by omega) (by simpa only [hl] using h), Bool.and_false]
  · exact mktOk_size h5

set_option maxRecDepth 100000 in
set_option maxHeartbeats 4000000 in
theorem specMIn_any (w : World) (L R : Value) (ls rs : List (List Int)) (hL : IntRows w L ls) (hR : IntRows w R rs) :
    Calls Tryd.prog 21 #[.agg (two L R)] w fun e w' => e = .returned (.bool (mktOk ls rs)) ∧ Below w.heap.size w w' := by
  obtain ⟨A1, cap1, rfl, hm1, hc1⟩ := hL.at
  obtain ⟨A2, cap2, rfl, hm2, hc2⟩ := hR.at
  obtain ⟨W0, hW0⟩ : ∃ W0, w.alloc (.cells (two (.slice A1 ls.length cap1) (.slice A2 rs.length cap2)) 28) = W0 := ⟨_, rfl⟩
  have hb0 : Below w.heap.size w W0 := by rw [← hW0]; exact (Below.refl _ _).alloc (Nat.le_refl _) _
  obtain ⟨x0, x1, xf, _⟩ := two_cells (show W0.heap[w.heap.size]? = some (.cells (two (.slice A1 ls.length cap1) (.slice A2 rs.length cap2)) 28 (0, 0)) by rw [← hW0]; exact World.alloc_heap_new _ _)
  have HC1 := Lib.hid hc1
  have HC2 := Lib.hid hc2
  have HB0 := Lib.hid hb0
  clear hc1 hc2 hb0 hL hR
  unfold maxLen at hm1 hm2
  by_cases h5 : 1 ≤ ls.length ∧ ls.length ≤ 5
  · have HLI := Lib.hid (fun W => l6In_r (ls.length : Int) 1 5 true (by rw [decide_eq_true_iff]; omega) W)
    by_cases hl : rs.length = ls.length
    · have HL := Lib.hid hl
      have e1 : ((rs.length : Int) != (ls.length : Int)) = false := by simp; omega
      clear hl
      go_enter Tryd.func21, Tryd.ntmps21
      go_wp2_with (go_at_call 52; refine (HLI.out _).mono ?_; rintro e w' ⟨rfl, rfl⟩)
      clear hW0
      go_loopw [4] (fun i wr => ∃ k : Nat, k ≤ ls.length ∧ i = .int .i64 k ∧ (∀ j (hj : j < ls.length), j < k → rankB ls.length ls[j] = true ∧ rankB ls.length (rs[j]'(by have := HL.out; omega)) = true) ∧ wr = W0) (fun i _ => ls.length - (intOf i).toNat)
      case atStart => exact ⟨0, by omega, rfl, fun j hj h => by omega, rfl⟩
      case round =>
        obtain ⟨k, hk, rfl, hall, hwr⟩ := hrel
        have hwr2 := hwr.symm
        clear hwr
        subst hwr2
        have HA := Lib.hid hall
        clear hall
        by_cases hlt : k < ls.length
        · have hlt2 : k < rs.length := by have := HL.out; omega
          obtain ⟨b, off, u, rfl, hcell0, hx0⟩ := HC1.out k hlt
          obtain ⟨b2, off2, u2, rfl, hcell20, hx20⟩ := HC2.out k hlt2
          have hcell := (HB0.out.cell (p := ⟨b, off + k, none⟩) (World.block_lt_of_cell? w _ hcell0)).trans hcell0
          have hcell2 := (HB0.out.cell (p := ⟨b2, off2 + k, none⟩) (World.block_lt_of_cell? w _ hcell20)).trans hcell20
          have HK1 := Lib.hid (fun W (hW : Below w.heap.size w W) => l6mRank_any W u ls[k] (hx0.below hW) ls.length h5.1 h5.2)
          have HK2 := Lib.hid (fun W (hW : Below w.heap.size w W) => l6mRank_any W u2 rs[k] (hx20.below hW) ls.length h5.1 h5.2)
          have hki : (k : Int) < (ls.length : Int) := by omega
          have hki2 : (k : Int) < (rs.length : Int) := by omega
          have hk0 : (0 : Int) ≤ (k : Int) := by omega
          clear hcell0 hcell20 hx0 hx20
          cases hb1 : rankB ls.length ls[k] with
          | false =>
            have HNO := Lib.hid (mktOk_row hlt HL.out (.inl hb1))
            rw [hb1] at HK1
            clear hb1
            go_wp2_with (go_at_call 53; refine (HK1.out _ HB0.out).mono ?_; rintro e w' ⟨rfl, rfl⟩)
            go_ret
            exact ⟨ret_bool HNO.out.symm, HB0.out⟩
          | true =>
            cases hb2 : rankB ls.length rs[k] with
            | false =>
              have HNO := Lib.hid (mktOk_row hlt HL.out (.inr hb2))
              rw [hb1] at HK1
              rw [hb2] at HK2
              clear hb1 hb2
              go_wp2_with fail
              refine (HK1.out _ HB0.out).mono ?_
              rintro e w' ⟨rfl, rfl⟩
              go_wp2_with (go_at_call 53; refine (HK2.out _ HB0.out).mono ?_; rintro e w' ⟨rfl, rfl⟩)
              go_ret
              exact ⟨ret_bool HNO.out.symm, HB0.out⟩
            | true =>
              have HT := Lib.hid (And.intro hb1 hb2)
              rw [hb1] at HK1
              rw [hb2] at HK2
              clear hb1 hb2
              go_wp2_with fail
              refine (HK1.out _ HB0.out).mono ?_
              rintro e w' ⟨rfl, rfl⟩
              go_wp2_with (go_at_call 53; refine (HK2.out _ HB0.out).mono ?_; rintro e w' ⟨rfl, rfl⟩)
              go_roundw
              case rel =>
                refine ⟨k + 1, by omega, by go_num, fun j hj h => ?_, trivial⟩
                by_cases e : j = k
                · subst e; exact HT.out
                · exact HA.out j hj (by omega)
              case measure => simp [intOf]; omega
        · obtain rfl : k = ls.length := by omega
          have hyes : mktOk ls rs = true := by
            have hl := HL.out
            rw [mktOk_sides h5.1 h5.2 hl, sideOk_yes (fun j hj => (HA.out j hj hj).1), sideOk_yes (xss := rs) (fun j hj => by rw [hl]; exact (HA.out j (by omega) (by omega)).2)]; rfl
          have HY := Lib.hid hyes
          clear hyes
          go_wp2
          go_ret
          exact ⟨ret_bool HY.out.symm, HB0.out⟩
    · have HNO := Lib.hid (mktOk_size (ls := ls) (rs := rs) (fun h => hl h.2.2))
      have e1 : ((rs.length : Int) != (ls.length : Int)) = true := by simp; omega
      clear hl
      go_enter Tryd.func21, Tryd.ntmps21
      go_wp2_with (go_at_call 52; refine (HLI.out _).mono ?_; rintro e w' ⟨rfl, rfl⟩)
      go_ret
      exact ⟨ret_bool HNO.out.symm, HB0.out⟩
  · have HNO := Lib.hid (mktOk_size (ls := ls) (rs := rs) (fun h => h5 ⟨h.1, h.2.1⟩))
    have HLI := Lib.hid (fun W => l6In_r (ls.length : Int) 1 5 false (by rw [decide_eq_false_iff_not]; omega) W)
    clear h5
    go_enter Tryd.func21, Tryd.ntmps21
    go_wp2_with (go_at_call 52; refine (HLI.out _).mono ?_; rintro e w' ⟨rfl, rfl⟩)
    go_ret
    exact ⟨ret_bool HNO.out.symm, HB0.out⟩

end Go.Proofs.YtahilcnmjnjcaaaDoor
