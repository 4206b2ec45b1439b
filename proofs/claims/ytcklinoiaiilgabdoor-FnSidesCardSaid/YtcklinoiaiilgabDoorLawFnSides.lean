/-
  FnSides: sides have no edges inside.
-/
import Derived.Test.YtcklinoiaiilgabDoorDrawSome
import Derived.Test.YtcklinoiaiilgabDoorSidesMath
import Derived.Test.YtcklinoiaiilgabDoorShr
import Derived.Test.YtcklinoiaiilgabDoorSym
import Derived.Test.YtcklinoiaiilgabDoorSpecSidesAny
namespace Go.Proofs.YtcklinoiaiilgabDoor
set_option linter.unusedVariables false
set_option linter.unusedSimpArgs false
open Go.RowKit

set_option maxRecDepth 100000 in
set_option maxHeartbeats 400000 in
theorem drawSides_any (w : World) (A : Option Addr) (L cap : Nat) (hc : L ≤ cap) (hm : L ≤ maxLen) (hx : Code8 w A L) :
    Calls Tryd.prog 31 #[.slice A L cap] w (GivesList w 7) := by
  have HO := Lib.hid (some_any w A L cap hc hm hx)
  clear hx hm hc
  go_enter Tryd.func31, Tryd.ntmps31
  go_wp2_with fail
  refine HO.out.mono ?_
  rintro e w1 ⟨G, xs, rfl, h1, h7, hI, hb1, hi⟩
  have HH := Lib.hid (And.intro hI (And.intro hb1 hi))
  clear hI hb1 hi
  go_wp2
  go_ret
  exact ⟨G, xs, rfl, h1, h7, HH.out.1, HH.out.2.1, HH.out.2.2⟩

theorem side_facts {xs : List Int} (h : sideOk xs = true) : gIn xs = true ∧ sideOf xs = ((leftTo (gfun xs) xs.length xs.length : Nat) : Int) ∧ leftTo (gfun xs) xs.length xs.length < 256 ∧
    (∀ v, (leftTo (gfun xs) xs.length xs.length).testBit v = true → gfun xs v &&& leftTo (gfun xs) xs.length xs.length = 0) ∧ (∀ v, (leftTo (gfun xs) xs.length xs.length).testBit v = false → gfun xs v &&& (255 - leftTo (gfun xs) xs.length xs.length) = 0) ∧ (leftTo (gfun xs) xs.length xs.length).testBit 0 = true := by
  have hg : gIn xs = true := by unfold sideOk at h; rw [Bool.and_eq_true] at h; exact h.1
  have hfr : arnd (gfun xs) (leftTo (gfun xs) xs.length xs.length) &&& leftTo (gfun xs) xs.length xs.length = 0 := by
    unfold sideOk at h; rw [Bool.and_eq_true, decide_eq_true_eq] at h; exact h.2
  obtain ⟨h1, h8, hok⟩ := gIn_parts hg
  refine ⟨hg, by unfold sideOf; rw [if_pos h], left_facts (gfun_pow hok) h8 h1 (fun i j hij => gIn_both hg hij) hfr⟩

set_option maxRecDepth 100000 in
set_option maxHeartbeats 4000000 in
theorem FnSides_final (w : World) (A : Option Addr) (L cap : Nat) (hc : L ≤ cap) (hm : L ≤ maxLen) (hx : Code8 w A L) (hT : Tab w) :
    Calls Tryd.prog 6 #[.slice A L cap] w fun e w' => e = .returned (.bool true) ∧ Below w.heap.size w w' := by
  have HD := Lib.hid (drawSides_any w A L cap hc hm hx)
  have HT := Lib.hid hT
  unfold maxLen at hm
  clear hx hT
  by_cases hbig : L ≤ 1048576
  · have e1 : ((1048576 : Int) < (L : Int)) = False := by simp; omega
    go_enter Tryd.func6, Tryd.ntmps6
    go_wp2_with fail
    refine HD.out.mono ?_
    rintro e w1 ⟨G, xs, rfl, h1, h7, hI, hb1, hi⟩
    have hS := implSides_any w1 _ xs hi hI (HT.out.later hb1) (fun hg i j hij => gIn_both hg hij)
    have HI := Lib.hid hi
    have HB1 := Lib.hid hb1
    clear hI hi hb1
    cases hok : sideOk xs with
    | false =>
      rw [hok] at hS
      have HS := Lib.hid hS
      have HP := Lib.hid (fun W (hW : Ints W (.slice (some ⟨G, 0, none⟩) xs.length xs.length) xs) => specSides_any W _ xs hW)
      rw [hok] at HP
      clear hS hok
      go_wp2_with fail
      refine HS.out.mono ?_
      rintro e w2 ⟨rfl, hb2⟩
      go_wp2_with fail
      refine (HP.out _ (HI.out.below hb2)).mono ?_
      rintro e w3 ⟨rfl, hb3⟩
      go_wp2
      go_ret
      exact ⟨rfl, step_below (step_below HB1.out hb2) hb3⟩
    | true =>
      obtain ⟨hg, hso, hl, hin, hout, h0⟩ := side_facts hok
      obtain ⟨_, h8, hoko⟩ := gIn_parts hg
      rw [hok, hso] at hS
      have HP := Lib.hid (fun W (hW : Ints W (.slice (some ⟨G, 0, none⟩) xs.length xs.length) xs) => specSides_any W _ xs hW)
      rw [hok, hso] at HP
      have hrow : ∀ i (hi : i < xs.length), xs[i] = (gfun xs i : Int) ∧ gfun xs i < 256 := fun k hk => row_value h8 hoko hk
      obtain ⟨s, hs⟩ : ∃ s, leftTo (gfun xs) xs.length xs.length = s := ⟨_, rfl⟩
      rw [hs] at hS HP hl hin hout h0
      have HS := Lib.hid hS
      have HIN := Lib.hid hin
      have HOUT := Lib.hid hout
      have HRW := Lib.hid hrow
      have HE := Lib.hid (bit0_is s hl true h0)
      clear hS hok hs hin hout hrow h0 hso hg hoko
      go_wp2_with fail
      refine HS.out.mono ?_
      rintro e w2 ⟨rfl, hb2⟩
      go_wp2_with fail
      refine (HP.out _ (HI.out.below hb2)).mono ?_
      rintro e w3 ⟨rfl, hb3⟩
      have hi3 := (HI.out.below hb2).below hb3
      obtain ⟨A3, cap3, he3, hm3, hc3⟩ := hi3
      obtain ⟨rfl, rfl⟩ : A3 = some ⟨G, 0, none⟩ ∧ cap3 = xs.length := by simpa using he3.symm
      have HC3 := Lib.hid hc3
      clear hc3 he3 hm3
      have HBB := Lib.hid (step_below (step_below HB1.out hb2) hb3)
      clear hb2 hb3
      go_wp2
      go_loop [8] (fun i => ∃ k : Nat, k ≤ xs.length ∧ i = .int .i64 k) (fun i => xs.length - (intOf i).toNat)
      case atStart => exact ⟨0, by omega, rfl⟩
      case round =>
        obtain ⟨k, hk, rfl⟩ := hrel
        by_cases hlt : k < xs.length
        · obtain ⟨b, off, hba, hcell⟩ := HC3.out k hlt
          obtain ⟨rfl, rfl⟩ : G = b ∧ 0 = off := by simpa using hba
          rw [(HRW.out k hlt).1, Nat.zero_add] at hcell
          have hf8 := (HRW.out k hlt).2
          have hki : (k : Int) < (xs.length : Int) := by omega
          have hk8 : (k : Int) < 8 := by omega
          have hk64 : (k : Int) < 64 := by omega
          cases hbt : s.testBit k with
          | true =>
            have hz := HIN.out k hbt
            have hand : bits .and .i64 ((gfun xs k : Nat) : Int) (s : Int) = 0 := by rw [and64 _ _ (by omega) (by omega), hz]; rfl
            obtain ⟨t1, t0⟩ := shr_is s k hl true hbt
            rw [Bool.not_true] at t0
            clear hbt hz hba
            go_wp2
            go_round
            all_goals first | exact ⟨k + 1, by omega, by go_num⟩ | (simp [intOf]; omega)
          | false =>
            have hz := HOUT.out k hbt
            have hand : bits .andNot .i64 ((gfun xs k : Nat) : Int) (s : Int) = 0 := by rw [andNot64 _ _ hf8 hl, hz]; rfl
            obtain ⟨t1, t0⟩ := shr_is s k hl false hbt
            rw [Bool.not_false] at t0
            clear hbt hz hba
            go_wp2
            go_round
            all_goals first | exact ⟨k + 1, by omega, by go_num⟩ | (simp [intOf]; omega)
        · obtain rfl : k = xs.length := by omega
          have he := HE.out
          go_wp2
          go_ret
          exact ⟨rfl, HBB.out⟩
  · have e1 : ((1048576 : Int) < (L : Int)) = True := by simp; omega
    go_enter Tryd.func6, Tryd.ntmps6
    go_wp2
    go_ret
    exact ⟨rfl, Below.refl _ _⟩

end Go.Proofs.YtcklinoiaiilgabDoor
