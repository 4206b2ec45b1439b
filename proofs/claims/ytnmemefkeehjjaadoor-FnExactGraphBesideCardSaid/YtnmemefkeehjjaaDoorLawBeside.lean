/-
  FnExactGraphBeside: at every input what the program hands back is what the specification does, in memory of its own; the arguments stay as they were.
-/
import Derived.Test.YtnmemefkeehjjaaDoorCore1
import Derived.Test.YtnmemefkeehjjaaDoorCore2
import Derived.Test.YtnmemefkeehjjaaDoorToInts
import Derived.Test.YtnmemefkeehjjaaDoorEqInts
import Derived.Test.YtnmemefkeehjjaaDoorMarkInts
namespace Go.Proofs.YtnmemefkeehjjaaDoor
set_option linter.unusedVariables false
set_option linter.unusedSimpArgs false
open Go.RowKit

set_option maxHeartbeats 2000000 in
theorem FnExactGraphBeside_walk (w : World) (v0 : Value) (xs0 : List Int) (v1 : Value) (xs1 : List Int) (h0 : Ints w v0 xs0) (h1 : Ints w v1 xs1) (hT : Tab w) (ok : Bool) (ys : List Int) (hl : ys.length ≤ 1048576)
    (hs : ∀ W u0 u1, Ints W u0 xs0 → Ints W u1 xs1 → Calls Tryd.prog 21 #[u0, u1] W (GivesInts W ok ys)) (hi : ∀ W u0 u1, Ints W u0 xs0 → Ints W u1 xs1 → Tab W → Calls Tryd.prog 22 #[u0, u1] W (GivesInts W ok ys)) :
    Calls Tryd.prog 5 #[v0, v1] w fun e w' => e = .returned (.bool true) ∧ Below w.heap.size w w' := by
  have hv0 := h0
  obtain ⟨A0, cap0, rfl, hm0, _⟩ := h0
  have HV0 := Lib.hid hv0
  clear hv0
  unfold maxLen at hm0
  have hv1 := h1
  obtain ⟨A1, cap1, rfl, hm1, _⟩ := h1
  have HV1 := Lib.hid hv1
  clear hv1
  unfold maxLen at hm1
  have HT := Lib.hid hT
  have HS := Lib.hid hs
  have HI := Lib.hid hi
  clear hT hs hi
  by_cases hl0 : xs0.length ≤ 1048576
  · have hl0' : ¬ (1048576 : Int) < (xs0.length : Int) := by omega
    by_cases hl1 : xs1.length ≤ 1048576
    · have hl1' : ¬ (1048576 : Int) < (xs1.length : Int) := by omega
      go_enter Tryd.func5, Tryd.ntmps5
      go_wp2_with fail
      refine (toIntS_any _ _ xs0 HV0.out hl0).mono ?_
      rintro e w1 ⟨rfl, hb1, c01⟩
      have hb1' : Below w.heap.size w w1 := hb1
      go_wp2_with fail
      refine (toIntS_any (w1) _ xs1 (HV1.out.below (hb1')) hl1).mono ?_
      rintro e w2 ⟨rfl, hb2, c12⟩
      have c02 := owns_below (w := w1) c01 hb2
      have hb2' : Below w.heap.size w w2 := step_below (hb1') hb2
      go_wp2_with fail
      refine (HS.out (w2) _ _ (ints_of_owns (w := w2) c02) (ints_of_owns (w := w2) c12)).mono ?_
      rintro e w3 ⟨v3, rfl, hb3, ho3⟩
      have c03 := owns_below (w := w2) c02 hb3
      have c13 := owns_below (w := w2) c12 hb3
      have hb3' : Below w.heap.size w w3 := step_below (hb2') hb3
      go_wp2_with fail
      refine (toIntS_any (w3) _ xs0 (HV0.out.below (hb3')) hl0).mono ?_
      rintro e w4 ⟨rfl, hb4, hx0_4⟩
      have ho4 := owns_below (w := w3) ho3 hb4
      have hb4' : Below w.heap.size w w4 := step_below (hb3') hb4
      go_wp2_with fail
      refine (toIntS_any (w4) _ xs1 (HV1.out.below (hb4')) hl1).mono ?_
      rintro e w5 ⟨rfl, hb5, hx1_5⟩
      have ho5 := owns_below (w := w4) ho4 hb5
      have hx0_5 := owns_below (w := w4) hx0_4 hb5
      have hb5' : Below w.heap.size w w5 := step_below (hb4') hb5
      go_wp2_with fail
      refine (HI.out (w5) _ _ (ints_of_owns (w := w5) hx0_5) (ints_of_owns (w := w5) hx1_5) (HT.out.later (hb5'))).mono ?_
      rintro e w6 ⟨v6, rfl, hb6, hg6⟩
      have ho6 := owns_below (w := w5) ho5 hb6
      have hx0_6 := owns_below (w := w5) hx0_5 hb6
      have hx1_6 := owns_below (w := w5) hx1_5 hb6
      have hb6' : Below w.heap.size w w6 := step_below (hb5') hb6
      go_wp2_with fail
      refine (eqIntS_same (w6) _ _ ys (ints_of_owns (w := w6) hg6) (ints_of_owns (w := w6) ho6)).mono ?_
      rintro e w7 ⟨rfl, q7, rfl⟩
      go_wp2_with fail
      refine (toIntS_any (w6.drewN q7) _ xs0 (HV0.out.below (below_drewN (hb6') q7)) hl0).mono ?_
      rintro e w8 ⟨rfl, hb8, hc8⟩
      have ho8 := owns_below (w := w6.drewN q7) ho6 hb8
      have hx0_8 := owns_below (w := w6.drewN q7) hx0_6 hb8
      have hx1_8 := owns_below (w := w6.drewN q7) hx1_6 hb8
      have hg8 := owns_below (w := w6.drewN q7) hg6 hb8
      have hb8' : Below w.heap.size w w8 := step_below (below_drewN (hb6') q7) hb8
      go_wp2_with fail
      refine (eqIntS_same (w8) _ _ xs0 (ints_of_owns (w := w8) hx0_8) (ints_of_owns (w := w8) hc8)).mono ?_
      rintro e w9 ⟨rfl, q9, rfl⟩
      go_wp2_with fail
      refine (toIntS_any (w8.drewN q9) _ xs1 (HV1.out.below (below_drewN (hb8') q9)) hl1).mono ?_
      rintro e w10 ⟨rfl, hb10, hc10⟩
      have ho10 := owns_below (w := w8.drewN q9) ho8 hb10
      have hx0_10 := owns_below (w := w8.drewN q9) hx0_8 hb10
      have hx1_10 := owns_below (w := w8.drewN q9) hx1_8 hb10
      have hg10 := owns_below (w := w8.drewN q9) hg8 hb10
      have hb10' : Below w.heap.size w w10 := step_below (below_drewN (hb8') q9) hb10
      go_wp2_with fail
      refine (eqIntS_same (w10) _ _ xs1 (ints_of_owns (w := w10) hx1_10) (ints_of_owns (w := w10) hc10)).mono ?_
      rintro e w11 ⟨rfl, q11, rfl⟩
      go_wp2_with fail
      refine (markIntS_any (w10.drewN q11) _ _ xs0 (1) hx0_10 (by omega) (by omega)).mono ?_
      rintro e w12 ⟨rfl, hgr12, _⟩
      have ho12 := World.ownsRow.kept (w := w10.drewN q11) ho10 hgr12 (apart ho3 hx0_4 (Nat.le_refl _))
      have hg12 := World.ownsRow.kept (w := w10.drewN q11) hg10 hgr12 (apart_back hx0_4 hg6 (by have h5_ := hb5.size; simp at *; omega))
      have hx1_12 := World.ownsRow.kept (w := w10.drewN q11) hx1_10 hgr12 (apart_back hx0_4 hx1_5 (Nat.le_refl _))
      have hb12' : Below w.heap.size w w12 := (below_drewN (hb10') q11).grown hgr12 (show w.heap.size ≤ (w10.drewN q11).heap.size from (below_drewN (hb10') q11).size) (fun k hk => Nat.le_trans (show w.heap.size ≤ _ from hb3'.size) (hx0_4.lt k hk).1)
      go_wp2_with fail
      refine (markIntS_any (w12) _ _ xs1 (1 + xs0.length) hx1_12 (by omega) (by omega)).mono ?_
      rintro e w13 ⟨rfl, hgr13, _⟩
      have ho13 := World.ownsRow.kept (w := w12) ho12 hgr13 (apart ho3 hx1_5 (by have h4_ := hb4.size; simp at *; omega))
      have hg13 := World.ownsRow.kept (w := w12) hg12 hgr13 (apart_back hx1_5 hg6 (Nat.le_refl _))
      have hb13' : Below w.heap.size w w13 := (hb12').grown hgr13 (show w.heap.size ≤ (w12).heap.size from (hb12').size) (fun k hk => Nat.le_trans (show w.heap.size ≤ _ from hb4'.size) (hx1_5.lt k hk).1)
      go_wp2_with fail
      refine (eqIntS_same (w13) _ _ ys (ints_of_owns (w := w13) hg13) (ints_of_owns (w := w13) ho13)).mono ?_
      rintro e w14 ⟨rfl, q14, rfl⟩
      go_wp2_with fail
      refine (markIntS_any (w13.drewN q14) _ _ ys 1 hg13 (by omega) (by omega)).mono ?_
      rintro e w15 ⟨rfl, hgr15, hg15⟩
      have ho15 := World.ownsRow.kept (w := w13.drewN q14) ho13 hgr15 (apart ho3 hg6 (by have h4_ := hb4.size; have h5_ := hb5.size; simp at *; omega))
      have hb15' : Below w.heap.size w w15 := (below_drewN (hb13') q14).grown hgr15 (show w.heap.size ≤ (w13.drewN q14).heap.size from (below_drewN (hb13') q14).size) (fun k hk => Nat.le_trans (show w.heap.size ≤ _ from hb5'.size) (hg6.lt k hk).1)
      go_wp2_with fail
      refine (heldIntS_any (w15) _ 1 ys.length (ints_of_owns (w := w15) hg15) (by omega) (by omega)).mono ?_
      rintro e w16 ⟨rfl, rfl⟩
      go_wp2_with fail
      refine (toIntS_any (w15) _ xs0 (HV0.out.below (hb15')) hl0).mono ?_
      rintro e w17 ⟨rfl, hb17, d0_17⟩
      have ho17 := owns_below (w := w15) ho15 hb17
      have hg17 := owns_below (w := w15) hg15 hb17
      have hb17' : Below w.heap.size w w17 := step_below (hb15') hb17
      go_wp2_with fail
      refine (toIntS_any (w17) _ xs1 (HV1.out.below (hb17')) hl1).mono ?_
      rintro e w18 ⟨rfl, hb18, d1_18⟩
      have ho18 := owns_below (w := w17) ho17 hb18
      have hg18 := owns_below (w := w17) hg17 hb18
      have d0_18 := owns_below (w := w17) d0_17 hb18
      have hb18' : Below w.heap.size w w18 := step_below (hb17') hb18
      go_wp2_with fail
      refine (HI.out (w18) _ _ (ints_of_owns (w := w18) d0_18) (ints_of_owns (w := w18) d1_18) (HT.out.later (hb18'))).mono ?_
      rintro e w19 ⟨v19, rfl, hb19, hh19⟩
      have ho19 := owns_below (w := w18) ho18 hb19
      have hg19 := owns_below (w := w18) hg18 hb19
      have d0_19 := owns_below (w := w18) d0_18 hb19
      have d1_19 := owns_below (w := w18) d1_18 hb19
      have hb19' : Below w.heap.size w w19 := step_below (hb18') hb19
      go_wp2_with fail
      refine (eqIntS_same (w19) _ _ ys (ints_of_owns (w := w19) hh19) (ints_of_owns (w := w19) ho19)).mono ?_
      rintro e w20 ⟨rfl, q20, rfl⟩
      go_wp2_with fail
      refine (heldIntS_any (w19.drewN q20) _ 1 ys.length (ints_of_owns (w := w19.drewN q20) hg19) (by omega) (by omega)).mono ?_
      rintro e w21 ⟨rfl, rfl⟩
      go_wp2
      go_ret
      exact ⟨rfl, below_drewN (hb19') q20⟩
    · have hl1' : (1048576 : Int) < (xs1.length : Int) := by omega
      go_enter Tryd.func5, Tryd.ntmps5
      go_wp2
      go_ret
      exact ⟨rfl, Below.refl _ _⟩
  · have hl0' : (1048576 : Int) < (xs0.length : Int) := by omega
    go_enter Tryd.func5, Tryd.ntmps5
    go_wp2
    go_ret
    exact ⟨rfl, Below.refl _ _⟩

end Go.Proofs.YtnmemefkeehjjaaDoor
