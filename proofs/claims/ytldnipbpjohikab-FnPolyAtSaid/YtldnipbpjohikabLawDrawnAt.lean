/-
  The drawn law FnPolyAt: values at 0 and 1.
-/
import Derived.Test.YtldnipbpjohikabLawDrawn
namespace Go.Proofs.Ytldnipbpjohikab
open Go.RowKit

theorem sum_take_succ {xs : List Int} {k : Nat} (h : k < xs.length) : (xs.take (k + 1)).sum = (xs.take k).sum + xs[k] := by
  rw [List.take_succ_eq_append_getElem h, List.sum_append]; simp
theorem sum_take_bound {xs : List Int} {b : Int} (hw : within b xs = true) (k : Nat) (hk : k ≤ xs.length) : -(k * b) ≤ (xs.take k).sum ∧ (xs.take k).sum ≤ k * b := by
  induction k with
  | zero => simp
  | succ k ih =>
    have h := ih (by omega)
    have hx := within_at hw (i := k) (by omega)
    rw [sum_take_succ (by omega)]
    have e : ((k + 1 : Nat) : Int) * b = k * b + b := by rw [Int.natCast_add, Int.add_mul]; simp
    omega

set_option maxRecDepth 100000 in
set_option maxHeartbeats 4000000 in
theorem FnPolyAt_final (w : World) (A : Option Addr) (L cap : Nat) (hc : L ≤ cap) (hm : L ≤ maxLen) (hx : Code8 w A L) :
    Calls Try.prog 7 #[.slice A L cap] w fun e w' => e = .returned (.bool true) ∧ Below w.heap.size w w' := by
  have HD := Lib.hid (drawAt_any w A L cap hc hm hx)
  unfold maxLen at hm
  clear hx
  by_cases hbig : L ≤ 1048576
  · have e1 : ((1048576 : Int) < (L : Int)) = False := by simp; omega
    go_enter Try.func7, Try.ntmps7
    go_wp2_with fail
    refine HD.out.mono ?_
    rintro e w1 ⟨v, xs, x, rfl, hl, hi, hxb, hb1⟩
    have HI := Lib.hid hi
    clear hi
    go_wp2_with fail
    refine (implAt_any w1 v xs x HI.out).mono ?_
    rintro e w2 ⟨rfl, hb2⟩
    have hb2' := step_below hb1 hb2
    have hi2 := HI.out.below hb2
    have HI2 := Lib.hid hi2
    clear hi2
    go_wp2_with fail
    refine (specAt_any w2 v xs x HI2.out).mono ?_
    rintro e w3 ⟨rfl, hb3⟩
    have hb3' := step_below hb2' hb3
    have hi3 := HI2.out.below hb3
    cases hk : atOk xs x with
    | false =>
      go_wp2
      go_ret
      exact ⟨rfl, hb3'⟩
    | true =>
      have hv : atVal xs x = horner x xs := by unfold atVal; rw [if_pos hk]
      have hw : within 100000 xs = true := by
        rw [atOk_of] at hk
        simp only [Bool.and_eq_true] at hk
        exact hk.1.1.2
      rw [hv]
      have HW := Lib.hid hw
      have HB := Lib.hid hb3'
      obtain ⟨B, c2, rfl, hm2, hc2⟩ := hi3
      have HC := Lib.hid hc2
      clear hk hv hw hb3' hc2 hb3 hb2' hb2 hb1
      go_wp2
      go_loop [9, 10] (fun sm i => ∃ k : Nat, k ≤ xs.length ∧ i = .int .i64 k ∧ sm = .int .i64 (xs.take k).sum) (fun _ i => xs.length - (intOf i).toNat)
      case atStart => exact ⟨0, by omega, rfl, rfl⟩
      case round =>
        obtain ⟨k, hk, rfl, rfl⟩ := hrel
        by_cases hlt : k < xs.length
        · obtain ⟨b, off, rfl, hcell⟩ := HC.out k hlt
          have zb := within_at HW.out hlt
          have hs := sum_take_succ hlt
          have sb := sum_take_bound HW.out k hk
          obtain ⟨z, hz⟩ : ∃ z, xs[k] = z := ⟨_, rfl⟩
          rw [hz] at hcell zb hs
          obtain ⟨s, hs0⟩ : ∃ s, (xs.take k).sum = s := ⟨_, rfl⟩
          rw [hs0] at hs sb ⊢
          have sb1 : -700000 ≤ s := by omega
          have sb2 : s ≤ 700000 := by omega
          obtain ⟨z1, z2⟩ := zb
          have HS := Lib.hid hs
          clear hs sb hz hs0
          go_wp2
          go_round
          case rel => exact ⟨k + 1, by omega, by go_num, by rw [HS.out]⟩
          case measure => simp [intOf]; omega
        · obtain rfl : k = xs.length := by omega
          rw [List.take_of_length_le (Nat.le_refl _)]
          by_cases hn : xs.length = 0
          · obtain rfl : xs = [] := by simpa using hn
            have h0 : horner x [] = 0 := rfl
            rw [h0]
            clear hn hlt hk h0 HC
            by_cases x0 : x = 0
            · subst x0
              go_wp2
              go_ret
              exact ⟨rfl, HB.out⟩
            · have x0' : (x != 0) = true := by simpa using x0
              clear x0
              by_cases x1 : x = 1
              · subst x1
                go_wp2
                go_ret
                exact ⟨rfl, HB.out⟩
              · have x1' : (x != 1) = true := by simpa using x1
                clear x1
                go_wp2
                go_ret
                exact ⟨rfl, HB.out⟩
          · have hn1 : (0 : Int) < (xs.length : Int) := by omega
            have hn2 : 0 < xs.length := by omega
            obtain ⟨b, off, rfl, hcell⟩ := HC.out 0 (by omega)
            have h00 : horner 0 xs = xs[0] := by rw [horner_at_zero, co_at (by omega)]
            have h11 := horner_at_one xs
            obtain ⟨z, hz⟩ : ∃ z, xs[0] = z := ⟨_, rfl⟩
            rw [hz] at hcell h00
            rw [Nat.add_zero] at hcell
            clear hn hlt hk hz
            by_cases x0 : x = 0
            · subst x0
              rw [h00]
              clear h00 h11
              go_wp2
              go_ret
              exact ⟨rfl, HB.out⟩
            · have x0' : (x != 0) = true := by simpa using x0
              clear x0 h00
              by_cases x1 : x = 1
              · subst x1
                rw [h11]
                clear h11
                go_wp2
                go_ret
                exact ⟨rfl, HB.out⟩
              · have x1' : (x != 1) = true := by simpa using x1
                clear x1 h11
                go_wp2
                go_ret
                exact ⟨rfl, HB.out⟩
  · have e1 : ((1048576 : Int) < (L : Int)) = True := by simp; omega
    go_enter Try.func7, Try.ntmps7
    go_wp2
    go_ret
    exact ⟨rfl, Below.refl _ _⟩

end Go.Proofs.Ytldnipbpjohikab
