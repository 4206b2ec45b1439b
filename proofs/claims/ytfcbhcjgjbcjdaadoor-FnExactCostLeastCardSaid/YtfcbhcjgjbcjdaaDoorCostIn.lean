/-
  WHAT COSTS ARE: plain functions; the specification's CoscIn.
-/
import Derived.Test.YtfcbhcjgjbcjdaaDoorGives
import Derived.Test.YtfcbhcjgjbcjdaaDoorCore1
import Derived.Deep.QuietTactic
import Derived.BigQuiet
import Derived.Deep.RegionLaw
import Derived.Outline
namespace Go.Proofs.YtfcbhcjgjbcjdaaDoor
set_option linter.unusedVariables false
set_option linter.unusedSimpArgs false
open Go.RowKit

def numC (x : Int) : Bool := decide (-1000 ≤ x ∧ x ≤ 1000)
def rowC (n : Nat) (xs : List Int) : Bool := decide (xs.length = n) && xs.all numC
def cIn (xss : List (List Int)) : Bool := xss.all (rowC xss.length) && decide (1 ≤ xss.length ∧ xss.length ≤ 6)
theorem cIn_row {xss : List (List Int)} {k : Nat} (hk : k < xss.length) (h : rowC xss.length xss[k] = false) : cIn xss = false := by
  unfold cIn
  rw [Bool.and_eq_false_iff]
  left
  rw [Bool.eq_false_iff]
  intro hall
  rw [List.all_eq_true.1 hall _ (List.getElem_mem hk)] at h
  cases h
theorem rowC_len {n : Nat} {xs : List Int} (h : xs.length ≠ n) : rowC n xs = false := by unfold rowC; rw [decide_eq_false h]; rfl
theorem rowC_num {n : Nat} {xs : List Int} {j : Nat} (hj : j < xs.length) (h : numC xs[j] = false) : rowC n xs = false := by
  unfold rowC
  rw [Bool.and_eq_false_iff]
  right
  rw [Bool.eq_false_iff]
  intro hall
  rw [List.all_eq_true.1 hall _ (List.getElem_mem hj)] at h
  cases h
theorem rowC_yes {n : Nat} {xs : List Int} (h : xs.length = n) (hj : ∀ j (hj : j < xs.length), numC xs[j] = true) : rowC n xs = true := by
  unfold rowC
  rw [decide_eq_true h, Bool.true_and, List.all_eq_true]
  intro x hx
  obtain ⟨j, hj', rfl⟩ := List.getElem_of_mem hx
  exact hj j hj'
theorem cIn_yes {xss : List (List Int)} (h : ∀ k (hk : k < xss.length), rowC xss.length xss[k] = true) : cIn xss = decide (1 ≤ xss.length ∧ xss.length ≤ 6) := by
  unfold cIn
  have : xss.all (rowC xss.length) = true := by
    rw [List.all_eq_true]
    intro x hx
    obtain ⟨k, hk, rfl⟩ := List.getElem_of_mem hx
    exact h k hk
  rw [this, Bool.true_and]
theorem numC_no {x : Int} (h : numC x = false) : x < -1000 ∨ 1000 < x := by unfold numC at h; rw [decide_eq_false_iff_not] at h; omega
theorem numC_yes {x : Int} (h : numC x = true) : -1000 ≤ x ∧ x ≤ 1000 := by unfold numC at h; rw [decide_eq_true_iff] at h; exact h

theorem l6In_c (n low high : Int) (r : Bool) (h : decide (low ≤ n ∧ n ≤ high) = r) (w : World) :
    Calls Tryd.prog 79 #[.int .i64 n, .int .i64 low, .int .i64 high] w fun e w' => e = .returned (.bool r) ∧ w = w' :=
  (l6In_any n low high w).mono fun e w' h' => ⟨by rw [← h]; exact h'.1, h'.2⟩

set_option maxRecDepth 100000 in
set_option maxHeartbeats 2000000 in
theorem specCostIn_any (w : World) (v : Value) (xss : List (List Int)) (h : IntRows w v xss) :
    Calls Tryd.prog 58 #[v] w fun e w' => e = .returned (.bool (cIn xss)) ∧ ∃ n, w' = w.drewN n := by
  obtain ⟨A, cap, rfl, hm, hc⟩ := h.at
  have HC := Lib.hid hc
  clear hc h
  unfold maxLen at hm
  go_enter Tryd.func58, Tryd.ntmps58
  go_wp2
  go_loopw [3, 4] (fun i _ wr => ∃ m q : Nat, m ≤ xss.length ∧ i = .int .i64 m ∧ (∀ k (hk : k < xss.length), k < m → rowC xss.length xss[k] = true) ∧ wr = w.drewN q) (fun i _ _ => xss.length - (intOf i).toNat)
  case atStart => exact ⟨0, 0, by omega, rfl, fun k hk h => by omega, rfl⟩
  case round =>
    obtain ⟨m, q, hm1, rfl, hrows, rfl⟩ := hrel
    have HR := Lib.hid hrows
    clear hrows
    by_cases hlt : m < xss.length
    · obtain ⟨b, off, u, rfl, hcell, hints⟩ := HC.out m hlt
      obtain ⟨A2, cap2, rfl, hm2, hc2⟩ := hints
      have HC2 := Lib.hid hc2
      have hmi : (m : Int) < (xss.length : Int) := by omega
      clear hc2
      unfold maxLen at hm2
      by_cases hrl : xss[m].length = xss.length
      · have e1 : ((xss[m].length : Int) != (xss.length : Int)) = false := by simp [hrl]
        go_wp2
        go_loopw [4] (fun k wr => ∃ j q : Nat, j ≤ xss.length ∧ k = .int .i64 j ∧ (∀ c (hc : c < xss[m].length), c < j → numC xss[m][c] = true) ∧ wr = w.drewN q) (fun k _ => xss.length - (intOf k).toNat)
        case atStart => exact ⟨0, q, by omega, rfl, fun c hc h => by omega, rfl⟩
        case round =>
          obtain ⟨j, q2, hj, rfl, hn, rfl⟩ := hrel
          have HN := Lib.hid hn
          clear hn
          by_cases hjl : j < xss.length
          · obtain ⟨b2, off2, rfl, hcell2⟩ := HC2.out j (by omega)
            have hji : (j : Int) < (xss.length : Int) := by omega
            have hji2 : (j : Int) < (xss[m].length : Int) := by omega
            have hj0 : (0 : Int) ≤ (j : Int) := by omega
            have hjm : j < xss[m].length := by omega
            obtain ⟨x, hx⟩ : ∃ x, xss[m][j] = x := ⟨_, rfl⟩
            rw [hx] at hcell2
            have HX := Lib.hid hx
            clear hx
            cases hb : numC x with
            | true =>
              have HL := Lib.hid (fun W => l6In_c x (-1000) 1000 true hb W)
              have HB := Lib.hid hb
              clear hb
              go_wp2_with (go_at_call 79; refine (HL.out _).mono ?_; rintro e w' ⟨rfl, rfl⟩)
              go_roundw
              all_goals first
                | (refine ⟨j + 1, q2, by omega, by go_num, fun c hc h => ?_, rfl⟩; by_cases hcj : c = j; (· subst hcj; rw [HX.out]; exact HB.out); exact HN.out c hc (by omega))
                | (simp [intOf]; omega)
            | false =>
              have HL := Lib.hid (fun W => l6In_c x (-1000) 1000 false hb W)
              have hno : cIn xss = false := cIn_row hlt (rowC_num hjm (by rw [HX.out]; exact hb))
              have HNO := Lib.hid hno
              clear hb hno
              go_wp2_with (go_at_call 79; refine (HL.out _).mono ?_; rintro e w' ⟨rfl, rfl⟩)
              go_ret
              exact ⟨ret_bool HNO.out.symm, q2, rfl⟩
          · obtain rfl : j = xss.length := by omega
            have hrow : rowC xss.length xss[m] = true := rowC_yes hrl (fun c hc => HN.out c hc (by omega))
            have HROW := Lib.hid hrow
            clear hrow
            go_wp2
            go_roundw
            all_goals first
              | (refine ⟨m + 1, q2, by omega, by go_num, fun c hc h => ?_, rfl⟩; by_cases hcm : c = m; (· subst hcm; exact HROW.out); exact HR.out c hc (by omega))
              | (simp [intOf]; omega)
      · have e1 : ((xss[m].length : Int) != (xss.length : Int)) = true := by simp; omega
        have hno : cIn xss = false := cIn_row hlt (rowC_len hrl)
        have HNO := Lib.hid hno
        clear hno
        go_wp2
        go_ret
        exact ⟨ret_bool HNO.out.symm, q, rfl⟩
    · obtain rfl : m = xss.length := by omega
      have ht := cIn_yes (fun k hk => HR.out k hk hk)
      have hl := fun W => l6In_c (xss.length : Int) 1 6 (cIn xss) (by rw [ht, Bool.eq_iff_iff, decide_eq_true_iff, decide_eq_true_iff]; omega) W
      have HL := Lib.hid hl
      clear ht hl
      go_wp2_with fail
      refine (HL.out _).mono ?_
      rintro e w' ⟨rfl, rfl⟩
      go_wp2
      go_ret
      exact ⟨rfl, q, rfl⟩

end Go.Proofs.YtfcbhcjgjbcjdaaDoor
