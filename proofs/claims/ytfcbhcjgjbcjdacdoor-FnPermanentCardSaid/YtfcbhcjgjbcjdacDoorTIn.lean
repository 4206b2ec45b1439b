/-
  WHAT A TABLE IS: plain functions; the specification's TableIn.
-/
import Derived.Test.YtfcbhcjgjbcjdacDoorGives
import Derived.Test.YtfcbhcjgjbcjdacDoorSets
import Derived.Deep.QuietTactic
import Derived.BigQuiet
import Derived.Deep.RegionLaw
import Derived.Outline
namespace Go.Proofs.YtfcbhcjgjbcjdacDoor
set_option linter.unusedVariables false
set_option linter.unusedSimpArgs false
open Go.RowKit

def numT (x : Int) : Bool := decide (-30 ≤ x ∧ x ≤ 30)
def rowT (n : Nat) (xs : List Int) : Bool := decide (xs.length = n) && xs.all numT
def tIn (xss : List (List Int)) : Bool := xss.all (rowT xss.length) && decide (1 ≤ xss.length ∧ xss.length ≤ 6)
theorem tIn_row {xss : List (List Int)} {k : Nat} (hk : k < xss.length) (h : rowT xss.length xss[k] = false) : tIn xss = false := by
  unfold tIn
  rw [Bool.and_eq_false_iff]
  left
  rw [Bool.eq_false_iff]
  intro hall
  rw [List.all_eq_true.1 hall _ (List.getElem_mem hk)] at h
  cases h
theorem rowT_len {n : Nat} {xs : List Int} (h : xs.length ≠ n) : rowT n xs = false := by unfold rowT; rw [decide_eq_false h]; rfl
theorem rowT_num {n : Nat} {xs : List Int} {j : Nat} (hj : j < xs.length) (h : numT xs[j] = false) : rowT n xs = false := by
  unfold rowT
  rw [Bool.and_eq_false_iff]
  right
  rw [Bool.eq_false_iff]
  intro hall
  rw [List.all_eq_true.1 hall _ (List.getElem_mem hj)] at h
  cases h
theorem rowT_yes {n : Nat} {xs : List Int} (h : xs.length = n) (hj : ∀ j (hj : j < xs.length), numT xs[j] = true) : rowT n xs = true := by
  unfold rowT
  rw [decide_eq_true h, Bool.true_and, List.all_eq_true]
  intro x hx
  obtain ⟨j, hj', rfl⟩ := List.getElem_of_mem hx
  exact hj j hj'
theorem tIn_yes {xss : List (List Int)} (h : ∀ k (hk : k < xss.length), rowT xss.length xss[k] = true) : tIn xss = decide (1 ≤ xss.length ∧ xss.length ≤ 6) := by
  unfold tIn
  have : xss.all (rowT xss.length) = true := by
    rw [List.all_eq_true]
    intro x hx
    obtain ⟨k, hk, rfl⟩ := List.getElem_of_mem hx
    exact h k hk
  rw [this, Bool.true_and]
theorem numT_no {x : Int} (h : numT x = false) : x < -30 ∨ 30 < x := by unfold numT at h; rw [decide_eq_false_iff_not] at h; omega
theorem numT_yes {x : Int} (h : numT x = true) : -30 ≤ x ∧ x ≤ 30 := by unfold numT at h; rw [decide_eq_true_iff] at h; exact h

theorem l6In_is (n low high : Int) (r : Bool) (h : decide (low ≤ n ∧ n ≤ high) = r) (w : World) :
    Calls Tryd.prog 70 #[.int .i64 n, .int .i64 low, .int .i64 high] w fun e w' => e = .returned (.bool r) ∧ w = w' :=
  (l6In_any n low high w).mono fun e w' h' => ⟨by rw [← h]; exact h'.1, h'.2⟩

set_option maxRecDepth 100000 in
set_option maxHeartbeats 2000000 in
theorem specTIn_any (w : World) (v : Value) (xss : List (List Int)) (h : IntRows w v xss) :
    Calls Tryd.prog 59 #[v] w fun e w' => e = .returned (.bool (tIn xss)) ∧ ∃ n, w' = w.drewN n := by
  obtain ⟨A, cap, rfl, hm, hc⟩ := h.at
  have HC := Lib.hid hc
  clear hc h
  unfold maxLen at hm
  go_enter Tryd.func59, Tryd.ntmps59
  go_wp2
  go_loopw [3, 4] (fun i _ wr => ∃ m q : Nat, m ≤ xss.length ∧ i = .int .i64 m ∧ (∀ k (hk : k < xss.length), k < m → rowT xss.length xss[k] = true) ∧ wr = w.drewN q) (fun i _ _ => xss.length - (intOf i).toNat)
  case atStart => exact ⟨0, 0, by omega, rfl, fun k hk h => by omega, rfl⟩
  case round =>
    obtain ⟨m, q, hm1, rfl, hrows, rfl⟩ := hrel
    have HR := Lib.hid hrows
    clear hrows
    by_cases hlt : m < xss.length
    · obtain ⟨b, off, u, rfl, hcell, hints⟩ := HC.out m hlt
      obtain ⟨A2, cap2, rfl, hm2, hc2⟩ := hints
      have HC2 := Lib.hid hc2
      have hmi : (m : Int) < (xss.length : Int) := by omega
      clear hc2
      unfold maxLen at hm2
      by_cases hrl : xss[m].length = xss.length
      · have e1 : ((xss[m].length : Int) != (xss.length : Int)) = false := by simp [hrl]
        go_wp2
        go_loopw [4] (fun k wr => ∃ j q : Nat, j ≤ xss.length ∧ k = .int .i64 j ∧ (∀ c (hc : c < xss[m].length), c < j → numT xss[m][c] = true) ∧ wr = w.drewN q) (fun k _ => xss.length - (intOf k).toNat)
        case atStart => exact ⟨0, q, by omega, rfl, fun c hc h => by omega, rfl⟩
        case round =>
          obtain ⟨j, q2, hj, rfl, hn, rfl⟩ := hrel
          have HN := Lib.hid hn
          clear hn
          by_cases hjl : j < xss.length
          · obtain ⟨b2, off2, rfl, hcell2⟩ := HC2.out j (by omega)
            have hji : (j : Int) < (xss.length : Int) := by omega
            have hji2 : (j : Int) < (xss[m].length : Int) := by omega
            have hj0 : (0 : Int) ≤ (j : Int) := by omega
            have hjm : j < xss[m].length := by omega
            obtain ⟨x, hx⟩ : ∃ x, xss[m][j] = x := ⟨_, rfl⟩
            rw [hx] at hcell2
            have HX := Lib.hid hx
            clear hx
            cases hb : numT x with
            | true =>
              have HL := Lib.hid (fun W => l6In_is x (-30) 30 true hb W)
              have HB := Lib.hid hb
              clear hb
              go_wp2_with (go_at_call 70; refine (HL.out _).mono ?_; rintro e w' ⟨rfl, rfl⟩)
              go_roundw
              all_goals first
                | (refine ⟨j + 1, q2, by omega, by go_num, fun c hc h => ?_, rfl⟩; by_cases hcj : c = j; (· subst hcj; rw [HX.out]; exact HB.out); exact HN.out c hc (by omega))
                | (simp [intOf]; omega)
            | false =>
              have HL := Lib.hid (fun W => l6In_is x (-30) 30 false hb W)
              have hno : tIn xss = false := tIn_row hlt (rowT_num hjm (by rw [HX.out]; exact hb))
              have HNO := Lib.hid hno
              clear hb hno
              go_wp2_with (go_at_call 70; refine (HL.out _).mono ?_; rintro e w' ⟨rfl, rfl⟩)
              go_ret
              exact ⟨ret_bool HNO.out.symm, q2, rfl⟩
          · obtain rfl : j = xss.length := by omega
            have hrow : rowT xss.length xss[m] = true := rowT_yes hrl (fun c hc => HN.out c hc (by omega))
            have HROW := Lib.hid hrow
            clear hrow
            go_wp2
            go_roundw
            all_goals first
              | (refine ⟨m + 1, q2, by omega, by go_num, fun c hc h => ?_, rfl⟩; by_cases hcm : c = m; (· subst hcm; exact HROW.out); exact HR.out c hc (by omega))
              | (simp [intOf]; omega)
      · have e1 : ((xss[m].length : Int) != (xss.length : Int)) = true := by simp; omega
        have hno : tIn xss = false := tIn_row hlt (rowT_len hrl)
        have HNO := Lib.hid hno
        clear hno
        go_wp2
        go_ret
        exact ⟨ret_bool HNO.out.symm, q, rfl⟩
    · obtain rfl : m = xss.length := by omega
      have ht := tIn_yes (fun k hk => HR.out k hk hk)
      have hl := fun W => l6In_is (xss.length : Int) 1 6 (tIn xss) (by rw [ht, Bool.eq_iff_iff, decide_eq_true_iff, decide_eq_true_iff]; omega) W
      have HL := Lib.hid hl
      clear ht hl
      go_wp2_with fail
      refine (HL.out _).mono ?_
      rintro e w' ⟨rfl, rfl⟩
      go_wp2
      go_ret
      exact ⟨rfl, q, rfl⟩

end Go.Proofs.YtfcbhcjgjbcjdacDoor
