/-
  FnConcave: squares of matching numbers are at least the products of those beside.
-/
import Derived.Test.YtnmemefkeehjjabDoorDraw1
import Derived.Test.YtnmemefkeehjjabDoorConcMath
import Derived.Test.YtnmemefkeehjjabDoorSpecGreat
import Derived.Test.YtnmemefkeehjjabDoorImplNums
import Derived.Test.YtnmemefkeehjjabDoorSame
import Derived.Deep.QuietTactic
import Derived.BigQuiet
namespace Go.Proofs.YtnmemefkeehjjabDoor
set_option linter.unusedVariables false
set_option linter.unusedSimpArgs false
open Go.RowKit

set_option maxRecDepth 100000 in
set_option maxHeartbeats 400000 in
theorem DrawMatchNumbers_some (w : World) (A : Option Addr) (L cap : Nat) (hc : L ≤ cap) (hm : L ≤ maxLen) (hx : Code8 w A L) :
    Calls Tryd.prog 14 #[.slice A L cap] w (GivesList w 7) := by
  have HO := Lib.hid (some_any w A L cap hc hm hx)
  clear hx hm hc
  go_enter Tryd.func14, Tryd.ntmps14
  go_wp2_with fail
  refine HO.out.mono ?_
  rintro e w1 ⟨G, xs, rfl, h1, h7, hI, hb1, hi⟩
  have HH := Lib.hid (And.intro hI (And.intro hb1 hi))
  clear hI hb1 hi
  go_wp2
  go_ret
  exact ⟨G, xs, rfl, h1, h7, HH.out.1, HH.out.2.1, HH.out.2.2⟩

/-- What a list of matching numbers is like. -/
structure NumC (l : List Int) (p : Nat → Nat) : Prop where
  is : ∀ k (h : k < l.length), l[k] = (p k : Int)
  five : l.length ≤ 5
  small : ∀ k, p k ≤ 43046721
  conc : ∀ k, p k * p (k + 2) ≤ p (k + 1) * p (k + 1)
theorem numC_of {xs : List Int} (hg : gIn xs = true) (h7 : xs.length ≤ 7) : NumC (numL (gfun xs) (2 ^ xs.length - 1)) (nums (gfun xs) (2 ^ xs.length - 1)) := by
  obtain ⟨_, h8, hok⟩ := gIn_parts hg
  have hs := all256 h8
  have hl := all_size ⟨xs.length, by omega⟩
  simp only at hl
  refine ⟨fun k h => ?_, numL_len _ _, fun k => nums_small hs k, fun k => conc (gIn_sym hg) (fun v => gIn_irr hg v) hs (by omega) k⟩
  rw [← co_at h, co_numL hs]
theorem conc_read {w : World} {A : Option Addr} {n cap : Nat} {xs : List Int} (h : Ints w (.slice A n cap) xs) {k : Nat} (hk : k < xs.length) : ∃ b off, A = some ⟨b, off, none⟩ ∧ w.cell? ⟨b, off + k, none⟩ = some (.int .i64 xs[k]) := by
  obtain ⟨A', cap', e, _, hc⟩ := h
  cases e
  exact hc k hk

set_option maxRecDepth 100000 in
set_option maxHeartbeats 4000000 in
theorem FnConcave_final (w : World) (A : Option Addr) (L cap : Nat) (hc : L ≤ cap) (hm : L ≤ maxLen) (hx : Code8 w A L) (hT : Tab w) :
    Calls Tryd.prog 4 #[.slice A L cap] w fun e w' => e = .returned (.bool true) ∧ Below w.heap.size w w' := by
  have HD := Lib.hid (DrawMatchNumbers_some w A L cap hc hm hx)
  have HT := Lib.hid hT
  unfold maxLen at hm
  clear hx hT
  by_cases hbig : L ≤ 1048576
  · have e1 : ((1048576 : Int) < (L : Int)) = False := by simp; omega
    go_enter Tryd.func4, Tryd.ntmps4
    go_wp2_with fail
    refine HD.out.mono ?_
    rintro e w1 ⟨G, xs, rfl, h1, h7, hI, hb1, hi⟩
    have HI := Lib.hid hi
    have HB1 := Lib.hid hb1
    have HII := Lib.hid hI
    clear hI hi hb1
    have hS := implNumbers_any w1 _ xs HI.out HII.out (HT.out.later HB1.out)
    have HP := Lib.hid (fun W (hW : Ints W (.slice (some ⟨G, 0, none⟩) xs.length xs.length) xs) => specNumbers_any W _ xs hW)
    obtain ⟨os, hos⟩ : ∃ os, numsOf xs = os := ⟨_, rfl⟩
    rw [hos] at hS HP
    cases hg : gIn xs with
    | false =>
      rw [hg] at hS HP
      have HS := Lib.hid hS
      clear hS hg hos
      go_wp2_with fail
      refine HS.out.mono ?_
      rintro e w2 ⟨g0, rfl, hb2, ho2⟩
      go_wp2_with fail
      refine (HP.out _ (HI.out.below hb2)).mono ?_
      rintro e w3 ⟨s0, rfl, hb3, ho3⟩
      have HBB := Lib.hid (step_below (step_below HB1.out hb2) hb3)
      have HY1 := Lib.hid ((ints_of_owns ho2).below hb3)
      have HY2 := Lib.hid (ints_of_owns ho3)
      clear hb2 hb3 ho2 ho3
      go_wp2_with fail
      refine (sameInts_same _ _ _ os HY1.out HY2.out).mono ?_
      rintro e w4 ⟨rfl, q, rfl⟩
      go_wp2_with fail
      refine (sameInts_same _ _ _ os (HY1.out.drewN q) (HY2.out.drewN q)).mono ?_
      rintro e w5 ⟨rfl, q2, rfl⟩
      go_wp2
      go_ret
      exact ⟨rfl, below_drewN HBB.out _⟩
    | true =>
      rw [hg] at hS HP
      have hos2 : numsOf xs = numL (gfun xs) (2 ^ xs.length - 1) := by unfold numsOf; rw [if_pos hg]
      have hso := numC_of hg h7
      rw [← hos2, hos] at hso
      obtain ⟨p, hp⟩ : ∃ p, nums (gfun xs) (2 ^ xs.length - 1) = p := ⟨_, rfl⟩
      rw [hp] at hso
      have HS := Lib.hid hS
      have HNF := Lib.hid hso
      clear hS hg hos hos2 hso hp
      go_wp2_with fail
      refine HS.out.mono ?_
      rintro e w2 ⟨g0, rfl, hb2, ho2⟩
      go_wp2_with fail
      refine (HP.out _ (HI.out.below hb2)).mono ?_
      rintro e w3 ⟨s0, rfl, hb3, ho3⟩
      have HBB := Lib.hid (step_below (step_below HB1.out hb2) hb3)
      have HY1 := Lib.hid ((ints_of_owns ho2).below hb3)
      have HY2 := Lib.hid (ints_of_owns ho3)
      clear hb2 hb3 ho2 ho3
      go_wp2_with fail
      refine (sameInts_same _ _ _ os HY1.out HY2.out).mono ?_
      rintro e w4 ⟨rfl, q, rfl⟩
      have HB4 := Lib.hid (below_drewN HBB.out q)
      have HY4 := Lib.hid (HY1.out.drewN q)
      obtain ⟨w5, hw5⟩ : ∃ w5, w3.drewN q = w5 := ⟨_, rfl⟩
      rw [hw5] at HB4 HY4
      rw [hw5]
      clear hw5
      obtain ⟨AO, capO, rfl⟩ : ∃ A cap, g0 = .slice A os.length cap := by obtain ⟨A, cap, e, _⟩ := HY4.out; exact ⟨A, cap, e⟩
      have hfive := HNF.out.five
      go_wp2
      go_loopw [8] (fun k wr => ∃ i : Nat, 1 ≤ i ∧ i ≤ os.length + 1 ∧ k = .int .i64 i ∧ Below w5.heap.size w5 wr) (fun k _ => os.length + 1 - (intOf k).toNat)
      case atStart => exact ⟨1, by omega, by omega, rfl, Below.refl _ _⟩
      case round =>
        obtain ⟨k, hk1, hk, rfl, hbr⟩ := hrel
        have hOr := HY4.out.below hbr
        have hk64 : (k : Int) < 64 := by omega
        have hk0 : (1 : Int) ≤ (k : Int) := by omega
        by_cases hlt : k + 1 < os.length
        · obtain ⟨j, hj⟩ : ∃ j, j + 1 = k := ⟨k - 1, by omega⟩
          obtain ⟨bO, offO, rfl, c1⟩ := conc_read hOr (k := k) (by omega)
          obtain ⟨_, _, he0, c0⟩ := conc_read hOr (k := j) (by omega)
          cases he0
          obtain ⟨_, _, he2, c2⟩ := conc_read hOr (k := k + 1) (by omega)
          cases he2
          rw [HNF.out.is] at c0 c1 c2
          have hc := HNF.out.conc j
          rw [show j + 2 = k + 1 by omega, hj] at hc
          have s0 := HNF.out.small j
          have s1 := HNF.out.small k
          have s2 := HNF.out.small (k + 1)
          obtain ⟨x, hx⟩ : ∃ x : Int, (p k : Int) = x := ⟨_, rfl⟩
          obtain ⟨y, hy⟩ : ∃ y : Int, (p j : Int) = y := ⟨_, rfl⟩
          obtain ⟨z, hz⟩ : ∃ z : Int, (p (k + 1) : Int) = z := ⟨_, rfl⟩
          have hP1 : p k * p k ≤ 43046721 * 43046721 := Nat.mul_le_mul s1 s1
          obtain ⟨P, hP⟩ : ∃ P : Int, x * x = P := ⟨_, rfl⟩
          obtain ⟨Q, hQ⟩ : ∃ Q : Int, y * z = Q := ⟨_, rfl⟩
          have eP : ((p k * p k : Nat) : Int) = P := by rw [Int.natCast_mul, hx, hP]
          have eQ : ((p j * p (k + 1) : Nat) : Int) = Q := by rw [Int.natCast_mul, hy, hz, hQ]
          have hP0 : 0 ≤ P := by omega
          have hQ0 : 0 ≤ Q := by omega
          have hPQ : Q ≤ P := by omega
          have hPm : P ≤ 1853020188851841 := by omega
          rw [hx] at c1
          rw [hy] at c0
          rw [hz] at c2
          have hjk : (k : Int) - 1 = (j : Int) := by omega
          have hj0 : (0 : Int) ≤ (j : Int) := by omega
          have hl0 : (j : Int) < (os.length : Int) := by omega
          have hl1 : (k : Int) < (os.length : Int) := by omega
          have hl2 : (k : Int) + 1 < (os.length : Int) := by omega
          have c2' : wr.cell? ⟨bO, offO + (k + 1), none⟩ = some (.int .i64 z) := c2
          clear hOr hc s0 s1 s2 hx hy hz hP1 eP eQ c2
          go_wp2
          go_quiet (fail)
          go_wp2
          go_roundw
          all_goals first | exact ⟨k + 1, by omega, by omega, by go_num, below_drewN hbr _⟩ | (simp [intOf]; omega)
        · have hl2 : ¬ (k : Int) + 1 < (os.length : Int) := by omega
          clear hOr
          go_wp2
          go_ret
          exact ⟨rfl, step_below HB4.out hbr⟩
  · have e1 : ((1048576 : Int) < (L : Int)) = True := by simp; omega
    go_enter Tryd.func4, Tryd.ntmps4
    go_wp2
    go_ret
    exact ⟨rfl, Below.refl _ _⟩

end Go.Proofs.YtnmemefkeehjjabDoor
