/-
  spec.l6mRank, spec.l6mPlace: whether a list is a ranking; where a member stands.
-/
import Derived.Test.YtfcbhcjgjbcjdaaDoorRank
import Derived.Test.YtfcbhcjgjbcjdaaDoorCore1
import Derived.Deep.QuietTactic
import Derived.BigQuiet
import Derived.Deep.RegionLaw
import Derived.Outline
namespace Go.Proofs.YtfcbhcjgjbcjdaaDoor
set_option linter.unusedVariables false
set_option linter.unusedSimpArgs false
open Go.RowKit

theorem l6In_r (n low high : Int) (r : Bool) (h : decide (low ≤ n ∧ n ≤ high) = r) (w : World) :
    Calls Tryd.prog 79 #[.int .i64 n, .int .i64 low, .int .i64 high] w fun e w' => e = .returned (.bool r) ∧ w = w' :=
  (l6In_any n low high w).mono fun e w' h' => ⟨by rw [← h]; exact h'.1, h'.2⟩

theorem rankB_bad {n : Nat} {xs : List Int} {k : Nat} (hk : k < xs.length) (h : inR n xs[k] = false) : rankB n xs = false := by
  unfold rankB
  have : xs.all (inR n) = false := by
    rw [Bool.eq_false_iff]
    intro hall
    rw [List.all_eq_true.1 hall _ (List.getElem_mem hk)] at h
    cases h
  rw [this, Bool.false_and]
theorem rankB_end {n : Nat} {xs : List Int} (h : ∀ k (hk : k < xs.length), inR n xs[k] = true) : rankB n xs = (decide (xs.length = n) && decide (seenOf xs = 2 ^ n - 1)) := by
  unfold rankB
  have : xs.all (inR n) = true := by
    rw [List.all_eq_true]
    intro x hx
    obtain ⟨k, hk, rfl⟩ := List.getElem_of_mem hx
    exact h k hk
  rw [this, Bool.true_and]

set_option maxRecDepth 100000 in
set_option maxHeartbeats 2000000 in
theorem l6mRank_any (w : World) (v : Value) (xs : List Int) (h : Ints w v xs) (n : Nat) (h1 : 1 ≤ n) (h5 : n ≤ 5) :
    Calls Tryd.prog 97 #[v, .int .i64 (n : Int)] w fun e w' => e = .returned (.bool (rankB n xs)) ∧ w = w' := by
  obtain ⟨A, cap, rfl, hm, hc⟩ := h
  have HC := Lib.hid hc
  clear hc
  unfold maxLen at hm
  have HLW := Lib.hid (low_wrap (v := n) (by omega))
  obtain ⟨n1, hn1⟩ : ∃ n1 : Nat, n - 1 = n1 := ⟨_, rfl⟩
  have hn1i : (n : Int) - 1 = (n1 : Int) := by omega
  have HN1 := Lib.hid hn1i
  clear hn1i
  go_enter Tryd.func97, Tryd.ntmps97
  go_wp2
  go_loopw [5, 6] (fun s i wr => ∃ k : Nat, k ≤ xs.length ∧ i = .int .i64 k ∧ s = .int .i64 (seenOf (xs.take k) : Nat) ∧ (∀ j (hj : j < xs.length), j < k → inR n xs[j] = true) ∧ wr = w) (fun _ i _ => xs.length - (intOf i).toNat)
  case atStart => exact ⟨0, by omega, rfl, rfl, fun j hj h => by omega, rfl⟩
  case round =>
    obtain ⟨k, hk, rfl, rfl, hall, hwr⟩ := hrel
    have hwr2 := hwr.symm
    clear hwr
    subst hwr2
    have HA := Lib.hid hall
    clear hall
    have hs32 : seenOf (xs.take k) < 32 := by
      have := seenOf_lt (n := n) (by omega) (xs.take k) (fun x hx => by
        obtain ⟨j, hj, rfl⟩ := List.getElem_of_mem hx
        rw [List.length_take] at hj
        rw [List.getElem_take]
        exact HA.out j (by omega) (by omega))
      have h2 : 2 ^ n ≤ 2 ^ 5 := Nat.pow_le_pow_right (by decide) h5
      omega
    obtain ⟨s, hs⟩ : ∃ s, seenOf (xs.take k) = s := ⟨_, rfl⟩
    rw [hs] at hs32 ⊢
    have HS := Lib.hid hs
    clear hs
    by_cases hlt : k < xs.length
    · obtain ⟨b, off, rfl, hcell⟩ := HC.out k hlt
      obtain ⟨x, hx⟩ : ∃ x, xs[k] = x := ⟨_, rfl⟩
      rw [hx] at hcell
      have hki : (k : Int) < (xs.length : Int) := by omega
      have hk0 : (0 : Int) ≤ (k : Int) := by omega
      have HX := Lib.hid hx
      have hw1 : IntKind.i64.wrap ((n : Int) - 1) = (n1 : Int) := by rw [HN1.out]; exact wraps_i64 _ (by omega) (by omega)
      have hw2 : wrap64 ((n : Int) - 1) = (n1 : Int) := by rw [← wrap_eq]; exact hw1
      clear hx
      cases hb : inR n x with
      | false =>
        have hr := rankB_bad hlt (by rw [HX.out]; exact hb)
        have HR := Lib.hid hr
        have HL := Lib.hid (fun W => l6In_r x 0 (n1 : Int) false (by unfold inR at hb; rw [HN1.out] at hb; exact hb) W)
        clear hb hr
        go_wp2_with (go_at_call 79; refine (HL.out _).mono ?_; rintro e w' ⟨rfl, rfl⟩)
        go_ret
        exact ⟨ret_bool HR.out.symm, rfl⟩
      | true =>
        have HL := Lib.hid (fun W => l6In_r x 0 (n1 : Int) true (by unfold inR at hb; rw [HN1.out] at hb; exact hb) W)
        obtain ⟨m, rfl⟩ : ∃ m : Nat, x = (m : Int) := ⟨x.toNat, by unfold inR at hb; rw [decide_eq_true_iff] at hb; omega⟩
        have hm5 : m < 5 := by unfold inR at hb; rw [decide_eq_true_iff] at hb; omega
        have hor : bits .or .i64 (s : Int) (wrap64 (2 ^ m)) = ((s ||| 2 ^ m : Nat) : Int) := or_pow (by omega) (by omega)
        have hnx : s ||| 2 ^ m = seenOf (xs.take (k + 1)) := by rw [seenOf_take xs k hlt, HX.out, HS.out]; rfl
        have HNX := Lib.hid hnx
        have HB := Lib.hid hb
        have hor2 := hor
        rw [← wrap_eq] at hor2
        clear hb hnx
        go_wp2_with (go_at_call 79; refine (HL.out _).mono ?_; rintro e w' ⟨rfl, rfl⟩)
        go_roundw
        case rel =>
          refine ⟨k + 1, by omega, by go_num, by rw [← HNX.out], fun j hj h => ?_, trivial⟩
          by_cases e : j = k
          · subst e; rw [HX.out]; exact HB.out
          · exact HA.out j hj (by omega)
        case measure => simp [intOf]; omega
    · obtain rfl : k = xs.length := by omega
      have hr := rankB_end (n := n) (fun j hj => HA.out j hj hj)
      rw [List.take_length] at HS
      rw [HS.out] at hr
      by_cases hl : xs.length = n
      · have e1 : ((xs.length : Int) == (n : Int)) = true := by simp [hl]
        obtain ⟨F1, hF1⟩ : ∃ F1, 2 ^ n - 1 = F1 := ⟨_, rfl⟩
        rw [hF1] at hr HLW
        have e2 : ((s : Int) == (F1 : Int)) = decide (s = F1) := by
          by_cases h : s = F1
          · subst h; simp
          · rw [decide_eq_false h]; simp; omega
        have hr2 : rankB n xs = decide (s = F1) := by rw [hr, hl]; simp
        have HR := Lib.hid hr2
        clear hr hr2 hF1
        have hlw := HLW.out
        have hlw2 := hlw
        rw [← wrap_eq, ← wrap_eq] at hlw2
        go_wp2
        go_ret
        exact ⟨ret_bool (by rw [HR.out]), rfl⟩
      · have e1 : ((xs.length : Int) == (n : Int)) = false := by simp; omega
        have hr2 : rankB n xs = false := by rw [hr, decide_eq_false hl]; rfl
        have HR := Lib.hid hr2
        clear hr hr2
        go_wp2
        go_ret
        exact ⟨ret_bool HR.out.symm, rfl⟩

end Go.Proofs.YtfcbhcjgjbcjdaaDoor
