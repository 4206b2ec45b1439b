/-
  spec.l4Cover, spec.CoverIn: whether a set has a node of each edge.
-/
import Derived.Test.YtcklinoiaiilgabDoorSpecIn
import Derived.Test.YtcklinoiaiilgabDoorGives
namespace Go.Proofs.YtcklinoiaiilgabDoor
set_option linter.unusedVariables false
set_option linter.unusedSimpArgs false
open Go.RowKit

/-- Whether a node and its neighbours let a set be a cover. -/
def covAt (f : Nat → Nat) (s a : Nat) : Bool := s.testBit a || decide (f a &&& (255 - s) = 0)
def covB (f : Nat → Nat) (n s : Nat) : Bool := (List.range n).all (covAt f s)
theorem covB_yes {f : Nat → Nat} {n s : Nat} (h : ∀ i, i < n → covAt f s i = true) : covB f n s = true := by
  unfold covB; rw [List.all_eq_true]; exact fun i hi => h i (List.mem_range.1 hi)
theorem covB_no {f : Nat → Nat} {n s i : Nat} (hi : i < n) (h : covAt f s i = false) : covB f n s = false := by
  unfold covB
  rw [Bool.eq_false_iff]
  intro hall
  rw [List.all_eq_true.1 hall i (List.mem_range.2 hi)] at h
  cases h

theorem shr_zero (s v : Nat) (hs : s < 256) : (bits .and .i64 ((s : Int) / 2 ^ v) 1 == 0) = !s.testBit v := by
  have e : ((s : Int) / 2 ^ v) = ((s / 2 ^ v : Nat) : Int) := by push_cast; rfl
  have hlt : s / 2 ^ v < 256 := Nat.lt_of_le_of_lt (Nat.div_le_self _ _) hs
  rw [e, show (1 : Int) = ((1 : Nat) : Int) from rfl, and64 _ _ (by omega) (by omega), Nat.and_one_is_mod, Nat.testBit_eq_decide_div_mod_eq]
  rcases Nat.mod_two_eq_zero_or_one (s / 2 ^ v) with h0 | h1
  · rw [h0]; decide
  · rw [h1]; decide

set_option maxRecDepth 100000 in
set_option maxHeartbeats 1000000 in
theorem l4Cover_any (w : World) (v : Value) (xs : List Int) (h : Ints w v xs) (h8 : xs.length ≤ 8) (hrow : ∀ i (hi : i < xs.length), xs[i] = (gfun xs i : Int) ∧ gfun xs i < 256) (s : Nat) (hs : s < 256) :
    Calls Tryd.prog 97 #[v, .int .i64 (s : Int)] w fun e w' => e = .returned (.bool (covB (gfun xs) xs.length s)) ∧ w = w' := by
  obtain ⟨A, cap, rfl, hm, hc⟩ := h
  have HC := Lib.hid hc
  have HR := Lib.hid hrow
  clear hc hrow
  go_enter Tryd.func97, Tryd.ntmps97
  go_wp2
  go_loop [5] (fun i => ∃ k : Nat, k ≤ xs.length ∧ i = .int .i64 k ∧ ∀ j, j < k → covAt (gfun xs) s j = true) (fun i => xs.length - (intOf i).toNat)
  case atStart => exact ⟨0, by omega, rfl, fun j hj => by omega⟩
  case round =>
    obtain ⟨k, hk, rfl, hall⟩ := hrel
    have HA := Lib.hid hall
    clear hall
    by_cases hlt : k < xs.length
    · obtain ⟨b, off, rfl, hcell⟩ := HC.out k hlt
      obtain ⟨hx, hx2⟩ := HR.out k hlt
      have hk8 : (k : Int) < 8 := by omega
      have hk64 : (k : Int) < 64 := by omega
      have hki : (k : Int) < (xs.length : Int) := by omega
      have hz := shr_zero s k hs
      have hand := andNot64 (gfun xs k) s hx2 hs
      rw [hx] at hcell
      cases hb : s.testBit k with
      | true =>
        have hcv : covAt (gfun xs) s k = true := by unfold covAt; rw [hb]; rfl
        have HV := Lib.hid hcv
        rw [hb, Bool.not_true] at hz
        clear hb hand hcv
        go_wp2
        go_round
        all_goals first | exact ⟨k + 1, by omega, by go_num, fun j hj => if e : j = k then e ▸ HV.out else HA.out j (by omega)⟩ | (simp [intOf]; omega)
      | false =>
        rw [hb, Bool.not_false] at hz
        by_cases h0 : gfun xs k &&& (255 - s) = 0
        · have hcv : covAt (gfun xs) s k = true := by unfold covAt; rw [decide_eq_true h0, Bool.or_true]
          have HV := Lib.hid hcv
          rw [h0] at hand
          clear hb h0 hcv
          go_wp2
          go_round
          all_goals first | exact ⟨k + 1, by omega, by go_num, fun j hj => if e : j = k then e ▸ HV.out else HA.out j (by omega)⟩ | (simp [intOf]; omega)
        · have hcv : covAt (gfun xs) s k = false := by unfold covAt; rw [hb, decide_eq_false h0]; rfl
          have HV := Lib.hid (covB_no hlt hcv)
          obtain ⟨m, hm0⟩ : ∃ m, gfun xs k &&& (255 - s) = m := ⟨_, rfl⟩
          rw [hm0] at hand h0
          have hne : ((m : Int) != 0) = true := by simp; exact h0
          clear hb h0 hcv hm0
          go_wp2
          go_ret
          exact ⟨ret_bool HV.out.symm, rfl⟩
    · obtain rfl : k = xs.length := by omega
      have HV := Lib.hid (covB_yes HA.out)
      go_wp2
      go_ret
      exact ⟨ret_bool HV.out.symm, rfl⟩

/-- What both answer. -/
def coverOf (xs : List Int) (a : Int) : Bool := gIn xs && decide (0 ≤ a ∧ a < ((2 ^ xs.length : Nat) : Int)) && covB (gfun xs) xs.length a.toNat

end Go.Proofs.YtcklinoiaiilgabDoor
