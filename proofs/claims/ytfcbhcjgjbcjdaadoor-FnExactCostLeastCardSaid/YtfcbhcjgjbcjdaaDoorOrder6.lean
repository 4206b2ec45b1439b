/-
  impl.orderFrom, up to six.
-/
import Derived.Test.YtfcbhcjgjbcjdaaDoorOrder
import Derived.Test.YtfcbhcjgjbcjdaaDoorRank6
namespace Go.Proofs.YtfcbhcjgjbcjdaaDoor
set_option linter.unusedVariables false
set_option linter.unusedSimpArgs false
open Go.RowKit

theorem scan_len6 {n : Nat} (h1 : 1 ≤ n) (h5 : n ≤ 6) {xs : List Int} (hl : xs.length ≠ n) : rankB n xs = false := by
  rw [rank_scan6 h1 h5, decide_eq_false hl, Bool.false_and]

set_option maxRecDepth 100000 in
set_option maxHeartbeats 2000000 in
theorem orderFrom6_any (w : World) (v : Value) (xs : List Int) (h : Ints w v xs) (n : Nat) (h1 : 1 ≤ n) (h5 : n ≤ 6) :
    Calls Tryd.prog 137 #[.int .i64 (n : Int), v] w fun e w' => ∃ u, e = .returned (.tuple #[u, .bool (rankB n xs)]) ∧ Below w.heap.size w w' ∧ Owns w' w.heap.size u (ordOf n xs) := by
  have h' := h
  obtain ⟨A, cap, rfl, hm, hc⟩ := h
  have HC := Lib.hid hc
  have HI := Lib.hid h'
  clear hc h'
  unfold maxLen at hm
  have nil : ∀ W : World, Below w.heap.size w W → rankB n xs = false → ∀ e, e = Ending.returned (.tuple #[.slice none 0 0, .bool false]) → ∃ u, e = .returned (.tuple #[u, .bool (rankB n xs)]) ∧ Below w.heap.size w W ∧ Owns W w.heap.size u (ordOf n xs) := fun W hb hf e he =>
    ⟨.slice none 0 0, by rw [hf]; exact he, hb, by rw [ordOf_no hf]; exact World.ownsRow_nil _ _ _ _⟩
  have NIL := Lib.hid nil
  clear nil
  by_cases hl : n = xs.length
  · subst hl
    have e1 : ((xs.length : Int) != (xs.length : Int)) = false := by simp
    have hrs := rank_scan6 h1 h5 xs
    rw [decide_eq_true (rfl : xs.length = xs.length), Bool.true_and] at hrs
    have HRS := Lib.hid hrs
    have HNB := Lib.hid (nodesBelow_any xs.length (by omega))
    obtain ⟨b, off, hA, _⟩ := HC.out 0 (by omega)
    have HA0 := Lib.hid hA
    have hfull : 2 ^ xs.length - 1 < 256 := by have : 2 ^ xs.length ≤ 2 ^ 6 := Nat.pow_le_pow_right (by decide) h5; omega
    have HFULL := Lib.hid hfull
    clear hrs hA hfull
    go_enter Tryd.func137, Tryd.ntmps137
    go_wp2_with (go_at_call 103; refine (HNB.out _).mono ?_; rintro e w' ⟨rfl, rfl⟩)
    go_loopw [6, 8, 17] (fun s _ i wr => ∃ k L : Nat, k ≤ xs.length ∧ i = .int .i64 k ∧ s = .int .i64 (L : Int) ∧ L < 256 ∧ rankB xs.length xs = scanB L (xs.drop k) ∧ wr = w) (fun _ _ i _ => xs.length - (intOf i).toNat)
    case atStart => exact ⟨0, 2 ^ xs.length - 1, by omega, rfl, rfl, HFULL.out, by rw [List.drop_zero]; exact HRS.out, rfl⟩
    case round =>
      obtain ⟨k, L, hk, rfl, rfl, hL, hsc, hwr⟩ := hrel
      have hwr2 := hwr.symm
      clear hwr
      subst hwr2
      have HSC := Lib.hid hsc
      clear hsc
      by_cases hlt : k < xs.length
      · obtain ⟨b', off', hA', hcell⟩ := HC.out k hlt
        subst hA'
        obtain ⟨x, hx⟩ : ∃ x, xs[k] = x := ⟨_, rfl⟩
        rw [hx] at hcell
        have hdr : xs.drop k = x :: xs.drop (k + 1) := by rw [List.drop_eq_getElem_cons hlt, hx]
        have hki : (k : Int) < (xs.length : Int) := by omega
        have hk0 : (0 : Int) ≤ (k : Int) := by omega
        rw [hdr] at HSC
        have HX := Lib.hid hx
        clear hx hdr
        by_cases hx0 : x < 0
        · have hr : rankB xs.length xs = false := by rw [HSC.out]; rw [scanB_cons, decide_eq_false (by omega)]; rfl
          have HRF := Lib.hid hr
          clear hr
          go_wp2
          go_ret2
          exact NIL.out _ (Below.refl _ _) HRF.out _ rfl
        · obtain ⟨m, rfl⟩ : ∃ m : Nat, x = (m : Int) := ⟨x.toNat, by omega⟩
          have HHA := Lib.hid (has_wide L m hL)
          cases hb : L.testBit m with
          | false =>
            have hr : rankB xs.length xs = false := by rw [HSC.out]; rw [scanB_cons, Int.toNat_natCast, hb, Bool.false_and, Bool.and_false]
            have HRF := Lib.hid hr
            rw [hb] at HHA
            clear hr hb
            go_wp2_with (go_at_call 115; refine (HHA.out _).mono ?_; rintro e w' ⟨rfl, rfl⟩)
            go_ret2
            exact NIL.out _ (Below.refl _ _) HRF.out _ rfl
          | true =>
            have hm8 : m < 8 := by
              rcases Nat.lt_or_ge m 8 with h | h
              · exact h
              · rw [bit_far hL h] at hb; cases hb
            have hr : rankB xs.length xs = scanB (L &&& (255 - 2 ^ m)) (xs.drop (k + 1)) := by rw [HSC.out]; exact scanB_nat _ hb
            have HRF := Lib.hid hr
            rw [hb] at HHA
            have HWO := Lib.hid (without_any L m hL hm8)
            have hL2 : L &&& (255 - 2 ^ m) < 256 := Nat.lt_of_le_of_lt Nat.and_le_left hL
            obtain ⟨L2, hL2e⟩ : ∃ L2, L &&& (255 - 2 ^ m) = L2 := ⟨_, rfl⟩
            rw [hL2e] at HWO HRF hL2
            clear hr hb hL2e
            go_wp2_with (first
              | (go_at_call 115; refine (HHA.out _).mono ?_; rintro e w' ⟨rfl, rfl⟩)
              | (go_at_call 110; refine (HWO.out _).mono ?_; rintro e w' ⟨rfl, rfl⟩))
            go_roundw
            case rel => exact ⟨k + 1, L2, by omega, by go_num, rfl, hL2, HRF.out, trivial⟩
            case measure => simp [intOf]; omega
      · obtain rfl : k = xs.length := by omega
        have hr : rankB xs.length xs = true := by rw [HSC.out, List.drop_length]; rfl
        have HRT := Lib.hid hr
        have hA := HA0.out
        subst hA
        have HCL := Lib.hid (clone_at _ b off cap xs HI.out (by omega))
        clear hr
        go_wp2_with (go_at_call 120; (refine HCL.out.mono ?_; rintro e w' ⟨u, rfl, hb1, ho1⟩))
        go_ret2
        exact ⟨u, by rw [HRT.out]; rfl, hb1, by rw [ordOf_yes HRT.out]; exact ho1⟩
  · have e1 : ((xs.length : Int) != (n : Int)) = true := by simp; omega
    have hr := scan_len6 h1 h5 (fun e => hl e.symm)
    have HRF := Lib.hid hr
    clear hr
    go_enter Tryd.func137, Tryd.ntmps137
    go_wp2
    go_ret2
    exact NIL.out _ (Below.refl _ _) HRF.out _ rfl

end Go.Proofs.YtfcbhcjgjbcjdaaDoor
