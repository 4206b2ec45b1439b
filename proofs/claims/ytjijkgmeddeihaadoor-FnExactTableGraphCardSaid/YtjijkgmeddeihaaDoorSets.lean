/-
  THE SMALL FUNCTIONS ON SETS: their contracts, for sets below 256 and nodes below 8.
-/
import Derived.Test.YtjijkgmeddeihaaDoorBits
namespace Go.Proofs.YtjijkgmeddeihaaDoor
set_option linter.unusedVariables false
set_option linter.unusedSimpArgs false
open Go.RowKit

theorem ret_sets {a b : Nat} (h : a = b) : Ending.returned (.int .i64 (a : Int)) = .returned (.int .i64 (b : Int)) := by rw [h]

set_option maxHeartbeats 400000 in
theorem nodesBelow_any (n : Nat) (hn : n < 9) (w : World) :
    Calls Tryd.prog 47 #[.int .i64 (n : Int)] w fun e w' => e = .returned (.int .i64 ((2 ^ n - 1 : Nat) : Int)) ∧ w = w' := by
  have e := low_wrap hn
  have H := Lib.hid e
  clear e
  go_enter Tryd.func47, Tryd.ntmps47
  go_wp2
  go_ret
  exact ⟨by rw [← H.out]; rfl, rfl⟩

set_option maxHeartbeats 400000 in
theorem has_any (s v : Nat) (hs : s < 256) (hv : v < 8) (w : World) :
    Calls Tryd.prog 52 #[.int .i64 (s : Int), .int .i64 (v : Int)] w fun e w' => e = .returned (.bool (s.testBit v)) ∧ w = w' := by
  have H := Lib.hid (has_bit s v hs hv)
  go_enter Tryd.func52, Tryd.ntmps52
  go_wp2
  go_ret
  exact ⟨ret_bool H.out, rfl⟩


set_option maxHeartbeats 400000 in
theorem without_any (s v : Nat) (hs : s < 256) (hv : v < 8) (w : World) :
    Calls Tryd.prog 44 #[.int .i64 (s : Int), .int .i64 (v : Int)] w fun e w' => e = .returned (.int .i64 ((s &&& (255 - 2 ^ v) : Nat) : Int)) ∧ w = w' := by
  have h := pow8_le (v := v) (by omega)
  have H : Hid (bits .andNot .i64 (s : Int) (wrap64 (2 ^ v)) = ((s &&& (255 - 2 ^ v) : Nat) : Int)) := by
    show bits .andNot .i64 (s : Int) (wrap64 (2 ^ v)) = _
    have h2 : 2 ^ v < 256 := by
      have : 2 ^ v ≤ 2 ^ 7 := Nat.pow_le_pow_right (by decide) (by omega)
      omega
    rw [pow_wrap (by omega), andNot64 s _ hs h2]
  clear h
  go_enter Tryd.func44, Tryd.ntmps44
  go_wp2
  go_ret
  exact ⟨ret_int H.out, rfl⟩

set_option maxHeartbeats 400000 in
theorem l6In_any (n low high : Int) (w : World) :
    Calls Tryd.prog 28 #[.int .i64 n, .int .i64 low, .int .i64 high] w fun e w' => e = .returned (.bool (decide (low ≤ n ∧ n ≤ high))) ∧ w = w' := by
  by_cases h1 : low ≤ n
  · go_enter Tryd.func28, Tryd.ntmps28
    go_wp2
    go_ret
    exact ⟨ret_bool (by first | (simp [h1]; done) | (simp; omega)), rfl⟩
  · go_enter Tryd.func28, Tryd.ntmps28
    go_wp2
    go_ret
    exact ⟨ret_bool (by first | (simp [h1]; done) | (simp; omega)), rfl⟩

theorem l6In_yes (n low high : Int) (h1 : low ≤ n) (h2 : n ≤ high) (w : World) :
    Calls Tryd.prog 28 #[.int .i64 n, .int .i64 low, .int .i64 high] w fun e w' => e = .returned (.bool true) ∧ w = w' :=
  (l6In_any n low high w).mono fun e w' ⟨he, hw⟩ => ⟨by rw [he]; exact ret_bool (by simp [h1, h2]), hw⟩
theorem l6In_no (n low high : Int) (h : n < low ∨ high < n) (w : World) :
    Calls Tryd.prog 28 #[.int .i64 n, .int .i64 low, .int .i64 high] w fun e w' => e = .returned (.bool false) ∧ w = w' :=
  (l6In_any n low high w).mono fun e w' ⟨he, hw⟩ => ⟨by rw [he]; exact ret_bool (decide_eq_false (by omega)), hw⟩
theorem l6In_q (n low high : Int) (r : Bool) (h : decide (low ≤ n ∧ n ≤ high) = r) (w : World) :
    Calls Tryd.prog 28 #[.int .i64 n, .int .i64 low, .int .i64 high] w fun e w' => e = .returned (.bool r) ∧ w' = w :=
  (l6In_any n low high w).mono fun e w' h' => ⟨by rw [← h]; exact h'.1, h'.2.symm⟩

set_option maxHeartbeats 400000 in
theorem l1Has_any (w : World) (v : Value) (xs : List Int) (a b m : Nat) (h : Ints w v xs) (ha : a < xs.length) (hx : xs[a] = (m : Int)) (hm : m < 256) (hb : b < 8) :
    Calls Tryd.prog 35 #[v, .int .i64 (a : Int), .int .i64 (b : Int)] w fun e w' => e = .returned (.bool (m.testBit b)) ∧ w = w' := by
  obtain ⟨A, cap, rfl, hmax, hc⟩ := h
  obtain ⟨bb, off, rfl, hcell⟩ := hc a ha
  rw [hx] at hcell
  have H := Lib.hid (shr_bit m b hm)
  clear hc hx
  unfold maxLen at hmax
  go_enter Tryd.func35, Tryd.ntmps35
  go_wp2
  go_ret
  exact ⟨ret_bool H.out, rfl⟩
theorem l1Has_q (w : World) (v : Value) (xs : List Int) (a b m : Nat) (h : Ints w v xs) (ha : a < xs.length) (hx : xs[a] = (m : Int)) (hm : m < 256) (hb : b < 8) (r : Bool) (hr : m.testBit b = r) :
    Calls Tryd.prog 35 #[v, .int .i64 (a : Int), .int .i64 (b : Int)] w fun e w' => e = .returned (.bool r) ∧ w' = w :=
  (l1Has_any w v xs a b m h ha hx hm hb).mono fun e w' h => ⟨by rw [← hr]; exact h.1, h.2.symm⟩

end Go.Proofs.YtjijkgmeddeihaaDoor
