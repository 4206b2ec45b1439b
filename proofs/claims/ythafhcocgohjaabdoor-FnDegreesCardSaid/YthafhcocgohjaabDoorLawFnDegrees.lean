/-
  FnDegrees: degrees are twice the edges.
-/
import Derived.Test.YthafhcocgohjaabDoorDraw1
import Derived.Test.YthafhcocgohjaabDoorEdgeMath
import Derived.Test.YthafhcocgohjaabDoorDegreesAny
import Derived.Test.YthafhcocgohjaabDoorImplEdges
import Derived.Test.YthafhcocgohjaabDoorSame
namespace Go.Proofs.YthafhcocgohjaabDoor
set_option linter.unusedVariables false
set_option linter.unusedSimpArgs false
open Go.RowKit

set_option maxRecDepth 100000 in
set_option maxHeartbeats 400000 in
theorem DrawGraphDegrees_some (w : World) (A : Option Addr) (L cap : Nat) (hc : L ≤ cap) (hm : L ≤ maxLen) (hx : Code8 w A L) :
    Calls Tryd.prog 15 #[.slice A L cap] w (GivesList w 7) := by
  have HO := Lib.hid (some_any w A L cap hc hm hx)
  clear hx hm hc
  go_enter Tryd.func15, Tryd.ntmps15
  go_wp2_with fail
  refine HO.out.mono ?_
  rintro e w1 ⟨G, xs, rfl, h1, h7, hI, hb1, hi⟩
  have HH := Lib.hid (And.intro hI (And.intro hb1 hi))
  clear hI hb1 hi
  go_wp2
  go_ret
  exact ⟨G, xs, rfl, h1, h7, HH.out.1, HH.out.2.1, HH.out.2.2⟩

set_option maxRecDepth 100000 in
set_option maxHeartbeats 4000000 in
theorem FnDegrees_final (w : World) (A : Option Addr) (L cap : Nat) (hc : L ≤ cap) (hm : L ≤ maxLen) (hx : Code8 w A L) (hT : Tab w) :
    Calls Tryd.prog 3 #[.slice A L cap] w fun e w' => e = .returned (.bool true) ∧ Below w.heap.size w w' := by
  have HD := Lib.hid (DrawGraphDegrees_some w A L cap hc hm hx)
  have HT := Lib.hid hT
  unfold maxLen at hm
  clear hx hT
  by_cases hbig : L ≤ 1048576
  · have e1 : ((1048576 : Int) < (L : Int)) = False := by simp; omega
    go_enter Tryd.func3, Tryd.ntmps3
    go_wp2_with fail
    refine HD.out.mono ?_
    rintro e w1 ⟨G, xs, rfl, h1, h7, hI, hb1, hi⟩
    have HI := Lib.hid hi
    have HB1 := Lib.hid hb1
    have HII := Lib.hid hI
    clear hI hi hb1
    have hS := implDegrees_any w1 _ xs HI.out HII.out (HT.out.later HB1.out)
    have HP := Lib.hid (fun W (hW : Ints W (.slice (some ⟨G, 0, none⟩) xs.length xs.length) xs) => specDegrees_any W _ xs hW)
    cases hg : gIn xs with
    | false =>
      obtain ⟨ys, hy⟩ : ∃ ys, degOf xs = ys := ⟨_, rfl⟩
      rw [hg, hy] at hS HP
      have HS := Lib.hid hS
      clear hS hg hy
      go_wp2_with fail
      refine HS.out.mono ?_
      rintro e w2 ⟨g0, rfl, hb2, ho2⟩
      go_wp2_with fail
      refine (HP.out _ (HI.out.below hb2)).mono ?_
      rintro e w3 ⟨s0, rfl, hb3, ho3⟩
      have HBB := Lib.hid (step_below (step_below HB1.out hb2) hb3)
      have HY1 := Lib.hid ((ints_of_owns ho2).below hb3)
      have HY2 := Lib.hid (ints_of_owns ho3)
      clear hb2 hb3 ho2 ho3
      go_wp2_with fail
      refine (sameInts_same _ _ _ ys HY1.out HY2.out).mono ?_
      rintro e w4 ⟨rfl, q, rfl⟩
      go_wp2_with fail
      refine (sameInts_same _ _ _ ys (HY1.out.drewN q) (HY2.out.drewN q)).mono ?_
      rintro e w5 ⟨rfl, q2, rfl⟩
      go_wp2
      go_ret
      exact ⟨rfl, below_drewN HBB.out _⟩
    | true =>
      obtain ⟨h1', h8, hok⟩ := gIn_parts hg
      have hall := degs_two hg
      have hL1 : (edgesL xs).length = (pairsTo (gfun xs) xs.length xs.length).length := by unfold edgesL; rw [if_pos hg]; unfold pairsOf; rw [List.length_map]
      rw [← hL1] at hall
      have hb1 : (edgesL xs).length ≤ 64 := by rw [hL1]; have := pairsTo_len (gfun xs) xs.length xs.length; omega
      have hE := fun W (hW : Ints W (.slice (some ⟨G, 0, none⟩) xs.length xs.length) xs) (hTW : Tab W) => implEdges_any W _ xs hW HII.out hTW
      rw [hg] at hE
      have hdo : degOf xs = glist xs.length (degs (gfun xs)) := by unfold degOf; rw [if_pos hg]
      have hd8 : ∀ i, degs (gfun xs) i ≤ 8 := fun i => bitsOf_len _
      obtain ⟨h, hh⟩ : ∃ h, degs (gfun xs) = h := ⟨_, rfl⟩
      have hall' : sumN h xs.length = 2 * (edgesL xs).length := by rw [← hh]; exact hall
      clear hall
      rw [hh] at hdo hd8
      obtain ⟨ys, hy⟩ : ∃ ys, degOf xs = ys := ⟨_, rfl⟩
      obtain ⟨zs, hz⟩ : ∃ zs, edgesL xs = zs := ⟨_, rfl⟩
      rw [hy] at hdo
      have hyl : ys.length = xs.length := by rw [hdo, glist_len]
      have hyv : ∀ i (hi : i < ys.length), ys[i] = ((h i : Nat) : Int) := fun i hi => by subst hdo; exact glist_at _ _ _ _
      rw [hg, hy] at hS HP
      rw [hz] at hE hall' hb1
      have HS := Lib.hid hS
      have HE := Lib.hid hE
      have HALL := Lib.hid (And.intro hall' hb1)
      have HYL := Lib.hid hyl
      have HYV := Lib.hid hyv
      have HD8 := Lib.hid hd8
      clear hS hE hall' hb1 hL1 hg hok hdo hy hz hyl hyv hd8 hh
      go_wp2_with fail
      refine HS.out.mono ?_
      rintro e w2 ⟨g0, rfl, hb2, ho2⟩
      go_wp2_with fail
      refine (HP.out _ (HI.out.below hb2)).mono ?_
      rintro e w3 ⟨s0, rfl, hb3, ho3⟩
      have HBB := Lib.hid (step_below (step_below HB1.out hb2) hb3)
      have HI3 := Lib.hid ((HI.out.below hb2).below hb3)
      have HY1 := Lib.hid ((ints_of_owns ho2).below hb3)
      have HY2 := Lib.hid (ints_of_owns ho3)
      clear hb2 hb3 ho2 ho3
      go_wp2_with fail
      refine (sameInts_same _ _ _ ys HY1.out HY2.out).mono ?_
      rintro e w4 ⟨rfl, q, rfl⟩
      have HB4 := Lib.hid (below_drewN HBB.out q)
      go_wp2_with fail
      refine (HE.out _ (HI3.out.drewN q) (HT.out.later HB4.out)).mono ?_
      rintro e w5 ⟨x0, us0, rfl, hb5, ho5⟩
      have HB5 := Lib.hid (step_below HB4.out hb5)
      obtain ⟨Aa, ca, rfl, hma, _⟩ := (rows_of_owns ho5).at
      obtain ⟨A4, cap4, rfl, hm4, hc4⟩ := (HY1.out.drewN q).below hb5
      have HC4 := Lib.hid hc4
      rw [HYL.out]
      clear hb5 ho5 hc4 hm4 hma
      go_wp2
      go_loopw [10, 11] (fun s i wr => ∃ k : Nat, k ≤ xs.length ∧ i = .int .i64 k ∧ s = .int .i64 (sumN h k : Nat) ∧ ∃ q2, wr = w5.drewN q2) (fun _ i _ => xs.length - (intOf i).toNat)
      case atStart => exact ⟨0, by omega, rfl, rfl, 0, rfl⟩
      case round =>
        obtain ⟨k, hk, rfl, rfl, q2, rfl⟩ := hrel
        have hsk := sumN_le (h := h) (c := 8) k (fun i _ => HD8.out i)
        by_cases hlt : k < xs.length
        · obtain ⟨b, off, rfl, hcell⟩ := HC4.out k (by rw [HYL.out]; exact hlt)
          rw [HYV.out k (by rw [HYL.out]; exact hlt)] at hcell
          have hd := HD8.out k
          have hnx := sumN_succ h k
          obtain ⟨c, hc'⟩ : ∃ c, h k = c := ⟨_, rfl⟩
          obtain ⟨s, hs'⟩ : ∃ s, sumN h k = s := ⟨_, rfl⟩
          rw [hc'] at hcell hd hnx
          rw [hs'] at hsk hnx ⊢
          have HNX := Lib.hid hnx
          clear hnx hc' hs'
          go_wp2
          go_roundw
          all_goals first | exact ⟨k + 1, by omega, by go_num, by rw [HNX.out]; go_num, _, rfl⟩ | (simp [intOf]; omega)
        · obtain rfl : k = xs.length := by omega
          obtain ⟨hall, hb64⟩ := HALL.out
          rw [hall] at hsk ⊢
          obtain ⟨E, hE⟩ : ∃ E, zs.length = E := ⟨_, rfl⟩
          rw [hE] at hall hb64 hsk ⊢
          clear hE hall
          go_wp2
          go_ret
          exact ⟨rfl, below_drewN HB5.out _⟩
  · have e1 : ((1048576 : Int) < (L : Int)) = True := by simp; omega
    go_enter Tryd.func3, Tryd.ntmps3
    go_wp2
    go_ret
    exact ⟨rfl, Below.refl _ _⟩

end Go.Proofs.YthafhcocgohjaabDoor
