/-
  FnEdges: edges and those of the others are all pairs.
-/
import Derived.Test.YthafhcocgohjaabDoorDraw1
import Derived.Test.YthafhcocgohjaabDoorOtherMath
import Derived.Test.YthafhcocgohjaabDoorEdgeMath
import Derived.Test.YthafhcocgohjaabDoorSpecEdges
import Derived.Test.YthafhcocgohjaabDoorSameRows
namespace Go.Proofs.YthafhcocgohjaabDoor
set_option linter.unusedVariables false
set_option linter.unusedSimpArgs false
open Go.RowKit

set_option maxRecDepth 100000 in
set_option maxHeartbeats 400000 in
theorem DrawGraphEdges_some (w : World) (A : Option Addr) (L cap : Nat) (hc : L ≤ cap) (hm : L ≤ maxLen) (hx : Code8 w A L) :
    Calls Tryd.prog 29 #[.slice A L cap] w (GivesList w 7) := by
  have HO := Lib.hid (some_any w A L cap hc hm hx)
  clear hx hm hc
  go_enter Tryd.func29, Tryd.ntmps29
  go_wp2_with fail
  refine HO.out.mono ?_
  rintro e w1 ⟨G, xs, rfl, h1, h7, hI, hb1, hi⟩
  have HH := Lib.hid (And.intro hI (And.intro hb1 hi))
  clear hI hb1 hi
  go_wp2
  go_ret
  exact ⟨G, xs, rfl, h1, h7, HH.out.1, HH.out.2.1, HH.out.2.2⟩

set_option maxRecDepth 100000 in
set_option maxHeartbeats 4000000 in
theorem FnEdges_final (w : World) (A : Option Addr) (L cap : Nat) (hc : L ≤ cap) (hm : L ≤ maxLen) (hx : Code8 w A L) (hT : Tab w) :
    Calls Tryd.prog 6 #[.slice A L cap] w fun e w' => e = .returned (.bool true) ∧ Below w.heap.size w w' := by
  have HD := Lib.hid (DrawGraphEdges_some w A L cap hc hm hx)
  have HT := Lib.hid hT
  unfold maxLen at hm
  clear hx hT
  by_cases hbig : L ≤ 1048576
  · have e1 : ((1048576 : Int) < (L : Int)) = False := by simp; omega
    go_enter Tryd.func6, Tryd.ntmps6
    go_wp2_with fail
    refine HD.out.mono ?_
    rintro e w1 ⟨G, xs, rfl, h1, h7, hI, hb1, hi⟩
    have HI := Lib.hid hi
    have HB1 := Lib.hid hb1
    have HII := Lib.hid hI
    clear hI hi hb1
    have hS := implEdges_any w1 _ xs HI.out HII.out (HT.out.later HB1.out)
    have HP := Lib.hid (fun W (hW : Ints W (.slice (some ⟨G, 0, none⟩) xs.length xs.length) xs) => specEdges_any W _ xs hW)
    cases hg : gIn xs with
    | false =>
      obtain ⟨ys, hy⟩ : ∃ ys, edgesL xs = ys := ⟨_, rfl⟩
      rw [hg, hy] at hS HP
      have HS := Lib.hid hS
      clear hS hg hy
      go_wp2_with fail
      refine HS.out.mono ?_
      rintro e w2 ⟨g0, usg0, rfl, hb2, ho2⟩
      go_wp2_with fail
      refine (HP.out _ (HI.out.below hb2)).mono ?_
      rintro e w3 ⟨s0, uss0, rfl, hb3, ho3⟩
      have HBB := Lib.hid (step_below (step_below HB1.out hb2) hb3)
      have HY1 := Lib.hid ((rows_of_owns ho2).below hb3)
      have HY2 := Lib.hid (rows_of_owns ho3)
      clear hb2 hb3 ho2 ho3
      go_wp2_with fail
      refine (sameRows_same _ _ _ ys HY1.out HY2.out).mono ?_
      rintro e w4 ⟨rfl, q, rfl⟩
      go_wp2_with fail
      refine (sameRows_same _ _ _ ys (HY1.out.drewN q) (HY2.out.drewN q)).mono ?_
      rintro e w5 ⟨rfl, q2, rfl⟩
      go_wp2
      go_ret
      exact ⟨rfl, below_drewN HBB.out _⟩
    | true =>
      obtain ⟨h1', h8, hok⟩ := gIn_parts hg
      have hall := edges_other hg
      obtain ⟨hg2, hl2, hI2, _, _⟩ := other_facts hg
      have hL1 : (edgesL xs).length = (pairsTo (gfun xs) xs.length xs.length).length := by unfold edgesL; rw [if_pos hg]; unfold pairsOf; rw [List.length_map]
      have hL2 : (edgesL (otherOf xs)).length = (pairsTo (gfun (otherOf xs)) xs.length xs.length).length := by unfold edgesL; rw [if_pos hg2, hl2]; unfold pairsOf; rw [List.length_map]
      rw [← hL1, ← hL2] at hall
      have hb1 : (edgesL xs).length ≤ 64 := by rw [hL1]; have := pairsTo_len (gfun xs) xs.length xs.length; omega
      have hb2 : (edgesL (otherOf xs)).length ≤ 64 := by rw [hL2]; have := pairsTo_len (gfun (otherOf xs)) xs.length xs.length; omega
      have hO := fun W (hW : Ints W (.slice (some ⟨G, 0, none⟩) xs.length xs.length) xs) => implOther_any W _ xs hW HII.out
      rw [hg] at hO
      obtain ⟨os, hos⟩ : ∃ os, otherOf xs = os := ⟨_, rfl⟩
      rw [hos] at hO hg2 hI2 hall hb2
      have hE := fun W (u : Value) (hW : Ints W u os) (hTW : Tab W) => implEdges_any W u os hW hI2 hTW
      rw [hg2] at hE
      obtain ⟨ys, hy⟩ : ∃ ys, edgesL xs = ys := ⟨_, rfl⟩
      obtain ⟨zs, hz⟩ : ∃ zs, edgesL os = zs := ⟨_, rfl⟩
      rw [hg, hy] at hS HP
      rw [hy] at hall hb1
      rw [hz] at hE hall hb2
      obtain ⟨n, hn⟩ : ∃ n, xs.length = n := ⟨_, rfl⟩
      have HS := Lib.hid hS
      have HO := Lib.hid hO
      have HE := Lib.hid hE
      have HALL := Lib.hid (And.intro hall (And.intro hb1 (And.intro hb2 (And.intro h8 h1'))))
      clear hS hO hE hall hb1 hb2 hg hg2 hl2 hI2 hL1 hL2 hok h8 h1' hos hy hz hn
      go_wp2_with fail
      refine HS.out.mono ?_
      rintro e w2 ⟨g0, usg0, rfl, hb2, ho2⟩
      go_wp2_with fail
      refine (HP.out _ (HI.out.below hb2)).mono ?_
      rintro e w3 ⟨s0, uss0, rfl, hb3, ho3⟩
      have HBB := Lib.hid (step_below (step_below HB1.out hb2) hb3)
      have HI3 := Lib.hid ((HI.out.below hb2).below hb3)
      have HY1 := Lib.hid ((rows_of_owns ho2).below hb3)
      have HY2 := Lib.hid (rows_of_owns ho3)
      clear hb2 hb3 ho2 ho3
      go_wp2_with fail
      refine (sameRows_same _ _ _ ys HY1.out HY2.out).mono ?_
      rintro e w4 ⟨rfl, q, rfl⟩
      have HB4 := Lib.hid (below_drewN HBB.out q)
      go_wp2_with fail
      refine (HO.out _ (HI3.out.drewN q) (HT.out.later HB4.out)).mono ?_
      rintro e w5 ⟨x0, rfl, hb5, ho5⟩
      have HB5 := Lib.hid (step_below HB4.out hb5)
      have HX5 := Lib.hid (ints_of_owns ho5)
      have HY5 := Lib.hid ((HY1.out.drewN q).below hb5)
      clear hb5 ho5
      go_wp2_with fail
      refine (HE.out _ _ HX5.out (HT.out.later HB5.out)).mono ?_
      rintro e w6 ⟨a0, ua0, rfl, hb6, ho6⟩
      obtain ⟨Aa, ca, rfl, hma, _⟩ := (rows_of_owns ho6).at
      obtain ⟨Ab, cb, rfl, hmb, _⟩ := (HY5.out.below hb6).at
      obtain ⟨hall, hz64, hy64, h8, h1'⟩ := HALL.out
      obtain ⟨n, hn⟩ : ∃ n, xs.length = n := ⟨_, rfl⟩
      rw [hn] at hall h8 h1' ⊢
      obtain ⟨A, hA⟩ : ∃ A, ys.length = A := ⟨_, rfl⟩
      obtain ⟨B, hB⟩ : ∃ B, zs.length = B := ⟨_, rfl⟩
      rw [hA] at hall hz64 ⊢
      rw [hB] at hall hy64 ⊢
      clear hn hA hB hma hmb
      have hfin : ∀ m : Nat, 1 ≤ m → m ≤ 8 → B + A = m * (m - 1) / 2 → Int.tdiv ((m : Int) * ((m : Int) - 1)) 2 = (B : Int) + (A : Int) ∧ (m : Int) * ((m : Int) - 1) ≤ 56 ∧ 0 ≤ (m : Int) * ((m : Int) - 1) := by
        intro m h1 h8 h
        have : m = 1 ∨ m = 2 ∨ m = 3 ∨ m = 4 ∨ m = 5 ∨ m = 6 ∨ m = 7 ∨ m = 8 := by omega
        rcases this with rfl | rfl | rfl | rfl | rfl | rfl | rfl | rfl <;> simp at h ⊢ <;> omega
      obtain ⟨f1, f2, f3⟩ := hfin n h1' h8 hall
      obtain ⟨M, hM⟩ : ∃ M : Int, (n : Int) * ((n : Int) - 1) = M := ⟨_, rfl⟩
      rw [hM] at f1 f2 f3
      go_wp2
      go_ret
      exact ⟨rfl, step_below HB5.out hb6⟩
  · have e1 : ((1048576 : Int) < (L : Int)) = True := by simp; omega
    go_enter Tryd.func6, Tryd.ntmps6
    go_wp2
    go_ret
    exact ⟨rfl, Below.refl _ _⟩

end Go.Proofs.YthafhcocgohjaabDoor
