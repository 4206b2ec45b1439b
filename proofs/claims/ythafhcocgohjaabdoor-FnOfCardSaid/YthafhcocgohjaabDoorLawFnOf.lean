/-
  FnOf: what is made is a graph with at most as many edges as told.
-/
import Derived.Test.YthafhcocgohjaabDoorDrawOf
import Derived.Test.YthafhcocgohjaabDoorOfMath2
import Derived.Test.YthafhcocgohjaabDoorOfAny
import Derived.Test.YthafhcocgohjaabDoorImplIn
import Derived.Test.YthafhcocgohjaabDoorSame
namespace Go.Proofs.YthafhcocgohjaabDoor
set_option linter.unusedVariables false
set_option linter.unusedSimpArgs false
open Go.RowKit

set_option maxRecDepth 100000 in
set_option maxHeartbeats 4000000 in
theorem FnOf_final (w : World) (A : Option Addr) (L cap : Nat) (hc : L ≤ cap) (hm : L ≤ maxLen) (hx : Code8 w A L) (hT : Tab w) :
    Calls Tryd.prog 9 #[.slice A L cap] w fun e w' => e = .returned (.bool true) ∧ Below w.heap.size w w' := by
  have HD := Lib.hid (of_drawn w A L cap hc hm hx)
  have HT := Lib.hid hT
  unfold maxLen at hm
  clear hx hT
  by_cases hbig : L ≤ 1048576
  · have e1 : ((1048576 : Int) < (L : Int)) = False := by simp; omega
    go_enter Tryd.func9, Tryd.ntmps9
    go_wp2_with fail
    refine HD.out.mono ?_
    rintro e w1 ⟨n, v, xss, rfl, h1, h7, hb1, hr, hl20⟩
    have HR := Lib.hid hr
    have HB1 := Lib.hid hb1
    clear hr hb1
    have hS := fun W (hW : IntRows W v xss) => implOf_any W (n : Int) v xss hW
    have hP := fun W (hW : IntRows W v xss) => specOf_any W (n : Int) v xss hW
    cases hg : ofOk (n : Int) xss with
    | false =>
      obtain ⟨ys, hy⟩ : ∃ ys, ofOf (n : Int) xss = ys := ⟨_, rfl⟩
      rw [hg, hy] at hS hP
      have HS := Lib.hid hS
      have HP := Lib.hid hP
      clear hS hP hg hy
      go_wp2_with fail
      refine (HS.out _ HR.out).mono ?_
      rintro e w2 ⟨g0, rfl, hb2, ho2⟩
      go_wp2_with fail
      refine (HP.out _ (HR.out.below hb2)).mono ?_
      rintro e w3 ⟨s0, rfl, hb3, ho3⟩
      have HBB := Lib.hid (step_below (step_below HB1.out hb2) hb3)
      have HY1 := Lib.hid ((ints_of_owns ho2).below hb3)
      have HY2 := Lib.hid (ints_of_owns ho3)
      clear hb2 hb3 ho2 ho3
      go_wp2_with fail
      refine (sameInts_same _ _ _ ys HY1.out HY2.out).mono ?_
      rintro e w4 ⟨rfl, q, rfl⟩
      go_wp2_with fail
      refine (sameInts_same _ _ _ ys (HY1.out.drewN q) (HY2.out.drewN q)).mono ?_
      rintro e w5 ⟨rfl, q2, rfl⟩
      go_wp2
      go_ret
      exact ⟨rfl, below_drewN HBB.out _⟩
    | true =>
      obtain ⟨hgi, hI, hle⟩ := out_of hg
      obtain ⟨ys, hy⟩ : ∃ ys, ofOf (n : Int) xss = ys := ⟨_, rfl⟩
      rw [hg, hy] at hS hP
      rw [hy] at hgi hI hle
      have hE := fun W (u : Value) (hW : Ints W u ys) (hTW : Tab W) => implEdges_any W u ys hW hI hTW
      rw [hgi] at hE
      have hN := fun W (u : Value) (hW : Ints W u ys) (hTW : Tab W) => implIn_any W u ys hW hI hTW
      rw [hgi] at hN
      obtain ⟨zs, hz⟩ : ∃ zs, edgesL ys = zs := ⟨_, rfl⟩
      rw [hz] at hE hle
      have HS := Lib.hid hS
      have HP := Lib.hid hP
      have HE := Lib.hid hE
      have HN := Lib.hid hN
      have HLE := Lib.hid hle
      clear hS hP hE hN hg hy hz hgi hI hle
      go_wp2_with fail
      refine (HS.out _ HR.out).mono ?_
      rintro e w2 ⟨g0, rfl, hb2, ho2⟩
      go_wp2_with fail
      refine (HP.out _ (HR.out.below hb2)).mono ?_
      rintro e w3 ⟨s0, rfl, hb3, ho3⟩
      have HBB := Lib.hid (step_below (step_below HB1.out hb2) hb3)
      have HY1 := Lib.hid ((ints_of_owns ho2).below hb3)
      have HY2 := Lib.hid (ints_of_owns ho3)
      have HR3 := Lib.hid ((HR.out.below hb2).below hb3)
      clear hb2 hb3 ho2 ho3
      go_wp2_with fail
      refine (sameInts_same _ _ _ ys HY1.out HY2.out).mono ?_
      rintro e w4 ⟨rfl, q, rfl⟩
      have HB4 := Lib.hid (below_drewN HBB.out q)
      go_wp2_with fail
      refine (HE.out _ _ (HY1.out.drewN q) (HT.out.later HB4.out)).mono ?_
      rintro e w5 ⟨x0, us0, rfl, hb5, ho5⟩
      have HB5 := Lib.hid (step_below HB4.out hb5)
      have HY5 := Lib.hid ((HY1.out.drewN q).below hb5)
      have HR5 := Lib.hid ((HR3.out.drewN q).below hb5)
      have HX5 := Lib.hid (rows_of_owns ho5)
      clear hb5 ho5
      go_wp2_with fail
      refine (HN.out _ _ HY5.out (HT.out.later HB5.out)).mono ?_
      rintro e w6 ⟨rfl, hb6⟩
      obtain ⟨Aa, ca, rfl, hma, _⟩ := HX5.out.at
      obtain ⟨Ab, cb, rfl, hmb, _⟩ := HR5.out.at
      have hle := HLE.out
      have hlei : (zs.length : Int) ≤ (xss.length : Int) := by omega
      clear hma hmb hle
      go_wp2
      go_ret
      exact ⟨rfl, step_below HB5.out hb6⟩
  · have e1 : ((1048576 : Int) < (L : Int)) = True := by simp; omega
    go_enter Tryd.func9, Tryd.ntmps9
    go_wp2
    go_ret
    exact ⟨rfl, Below.refl _ _⟩

end Go.Proofs.YthafhcocgohjaabDoor
