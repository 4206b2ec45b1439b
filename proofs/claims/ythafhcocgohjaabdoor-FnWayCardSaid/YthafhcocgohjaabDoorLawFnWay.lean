/-
  FnWay: ways have an edge less than nodes, one part, and sides.
-/
import Derived.Test.YthafhcocgohjaabDoorDraw1
import Derived.Test.YthafhcocgohjaabDoorSame
import Derived.Test.YthafhcocgohjaabDoorWay
import Derived.Test.YthafhcocgohjaabDoorImplEdges
import Derived.Test.YthafhcocgohjaabDoorLeft
import Derived.Test.YthafhcocgohjaabDoorSpecParts
namespace Go.Proofs.YthafhcocgohjaabDoor
set_option linter.unusedVariables false
set_option linter.unusedSimpArgs false
open Go.RowKit
set_option maxRecDepth 100000

set_option maxHeartbeats 400000 in
theorem DrawGraphWay_num (w : World) (A : Option Addr) (L cap : Nat) (hc : L ≤ cap) (hm : L ≤ maxLen) (hx : Code8 w A L) :
    Calls Tryd.prog 24 #[.slice A L cap] w fun e w' => ∃ v : Nat, v < 10 ∧ e = .returned (.int .i64 v) ∧ Below w.heap.size w w' := by
  have HO := Lib.hid (number_any w A L cap hc hm hx)
  clear hx hm hc
  go_enter Tryd.func24, Tryd.ntmps24
  go_wp2_with (go_at_call 63; refine HO.out.mono ?_; rintro e w1 ⟨v, hv, rfl, hb1⟩)
  go_ret
  exact ⟨v, hv, rfl, hb1⟩

def wayLits (n : Nat) : List Int := [[], [0], [2, 1], [2, 5, 2], [2, 5, 10, 4], [2, 5, 10, 20, 8], [2, 5, 10, 20, 40, 16], [2, 5, 10, 20, 40, 80, 32], [2, 5, 10, 20, 40, 80, 160, 64]].getD n []
theorem way_lits : ∀ n : Fin 9, 1 ≤ n.val → glist n.val (wayTo (n.val - 1)) = wayLits n.val := by decide +kernel
theorem way_gin : ∀ n : Fin 9, 1 ≤ n.val → gIn (wayLits n.val) = true ∧ (wayLits n.val).all (fun x => decide (-9223372036854775808 ≤ x ∧ x ≤ 9223372036854775807)) = true := by decide +kernel
theorem way_edges : ∀ n : Fin 9, 1 ≤ n.val → (edgesL (wayLits n.val)).length + 1 = n.val := by decide +kernel
theorem way_parts : ∀ n : Fin 9, 1 ≤ n.val → (partsOf (wayLits n.val)).length = 1 := by decide +kernel
theorem way_sides : ∀ n : Fin 9, 1 ≤ n.val → sideOk (wayLits n.val) = true := by decide +kernel

set_option maxHeartbeats 1000000 in
theorem FnWay_final (w : World) (A : Option Addr) (L cap : Nat) (hc : L ≤ cap) (hm : L ≤ maxLen) (hx : Code8 w A L) (hT : Tab w) :
    Calls Tryd.prog 5 #[.slice A L cap] w fun e w' => e = .returned (.bool true) ∧ Below w.heap.size w w' := by
  have HD := Lib.hid (DrawGraphWay_num w A L cap hc hm hx)
  have HT := Lib.hid hT
  unfold maxLen at hm
  clear hx hT
  by_cases hbig : L ≤ 1048576
  · have e1 : ((1048576 : Int) < (L : Int)) = False := by simp; omega
    go_enter Tryd.func5, Tryd.ntmps5
    go_wp2_with fail
    refine HD.out.mono ?_
    rintro e w1 ⟨n, hn, rfl, hb1⟩
    have hT1 := Lib.hid (HT.out.later hb1)
    by_cases h : n < 1 ∨ 8 < n
    · have HR := Lib.hid (fun W => way_no (n : Int) (by omega) W)
      have HS := Lib.hid (fun W => specWay_no (n : Int) (by omega) W)
      clear h
      go_wp2_with fail
      refine (HR.out _).mono ?_
      rintro e w2 ⟨g0, rfl, hb2, ho2⟩
      go_wp2_with fail
      refine (HS.out _).mono ?_
      rintro e w3 ⟨s0, rfl, hb3, ho3⟩
      go_wp2_with fail
      refine (sameInts_same _ _ _ [] ((ints_of_owns ho2).below hb3) (ints_of_owns ho3)).mono ?_
      rintro e w4 ⟨rfl, q, rfl⟩
      go_wp2_with fail
      refine (sameInts_same _ _ _ [] (((ints_of_owns ho2).below hb3).drewN _) ((ints_of_owns ho3).drewN _)).mono ?_
      rintro e w5 ⟨rfl, q2, rfl⟩
      go_wp2
      go_ret
      exact ⟨rfl, below_drewN (step_below (step_below hb1 hb2) hb3) _⟩
    · have h1 : 1 ≤ n := by omega
      have h8 : n ≤ 8 := by omega
      have hR := fun W => way_yes n h1 h8 W
      have hS := fun W => specWay_yes n h1 h8 W
      have e0 := way_lits ⟨n, by omega⟩ h1
      obtain ⟨hg, hI⟩ := way_gin ⟨n, by omega⟩ h1
      have he := way_edges ⟨n, by omega⟩ h1
      have hp := way_parts ⟨n, by omega⟩ h1
      have hsd := way_sides ⟨n, by omega⟩ h1
      simp only at e0 hg hI he hp hsd
      obtain ⟨xs, hxs⟩ : ∃ xs, wayLits n = xs := ⟨_, rfl⟩
      rw [hxs] at e0 hg hI he hp hsd
      rw [e0] at hR hS
      have hI2 : ∀ x ∈ xs, I64 x := fun x hx => by simpa [I64] using List.all_eq_true.1 hI x hx
      have hsy : gIn xs = true → SymF (gfun xs) := fun hg => by
        obtain ⟨_, hl8, hok⟩ := gIn_parts hg
        refine symF_of hl8 hok ?_
        unfold gIn at hg
        simp only [Bool.and_eq_true, decide_eq_true_eq] at hg
        exact hg.2.2
      have hE := fun W (u : Value) (hW : Ints W u xs) (hTW : Tab W) => implEdges_any W u xs hW hI2 hTW
      have hP := fun W (u : Value) (hW : Ints W u xs) (hTW : Tab W) => implParts_any W u xs hW hI2 hTW
      have hD := fun W (u : Value) (hW : Ints W u xs) (hTW : Tab W) => implSides_any W u xs hW hI2 hTW hsy
      rw [hg] at hE hP
      rw [hsd] at hD
      obtain ⟨zs, hz⟩ : ∃ zs, edgesL xs = zs := ⟨_, rfl⟩
      obtain ⟨ps, hps⟩ : ∃ ps, partsOf xs = ps := ⟨_, rfl⟩
      obtain ⟨sv, hsv⟩ : ∃ sv, sideOf xs = sv := ⟨_, rfl⟩
      rw [hz] at hE he
      rw [hps] at hP hp
      rw [hsv] at hD
      have HR := Lib.hid hR
      have HS := Lib.hid hS
      have HE := Lib.hid hE
      have HP := Lib.hid hP
      have HDD := Lib.hid hD
      have HL := Lib.hid (And.intro he hp)
      clear h hR hS hE hP hD e0 hg hI he hp hsd hxs hz hps hsv hI2 hsy
      go_wp2_with fail
      refine (HR.out _).mono ?_
      rintro e w2 ⟨g0, rfl, hb2, ho2⟩
      go_wp2_with fail
      refine (HS.out _).mono ?_
      rintro e w3 ⟨s0, rfl, hb3, ho3⟩
      have HBB := Lib.hid (step_below (step_below hb1 hb2) hb3)
      have HY1 := Lib.hid ((ints_of_owns ho2).below hb3)
      have HY2 := Lib.hid (ints_of_owns ho3)
      clear hb2 hb3 ho2 ho3 hb1
      go_wp2_with fail
      refine (sameInts_same _ _ _ xs HY1.out HY2.out).mono ?_
      rintro e w4 ⟨rfl, q, rfl⟩
      have HB4 := Lib.hid (below_drewN HBB.out q)
      go_wp2_with fail
      refine (HE.out _ _ (HY1.out.drewN q) (HT.out.later HB4.out)).mono ?_
      rintro e w5 ⟨x0, ux0, rfl, hb5, ho5⟩
      have HB5 := Lib.hid (step_below HB4.out hb5)
      have HY5 := Lib.hid ((HY1.out.drewN q).below hb5)
      have HX5 := Lib.hid (rows_of_owns ho5)
      clear hb5 ho5
      go_wp2_with fail
      refine (HP.out _ _ HY5.out (HT.out.later HB5.out)).mono ?_
      rintro e w6 ⟨a0, rfl, hb6, ho6⟩
      have HB6 := Lib.hid (step_below HB5.out hb6)
      have HY6 := Lib.hid (HY5.out.below hb6)
      have HX6 := Lib.hid (HX5.out.below hb6)
      have HA6 := Lib.hid (ints_of_owns ho6)
      clear hb6 ho6
      go_wp2_with fail
      refine (HDD.out _ _ HY6.out (HT.out.later HB6.out)).mono ?_
      rintro e w7 ⟨rfl, hb7⟩
      obtain ⟨Aa, ca, rfl, hma, _⟩ := HX6.out.at
      obtain ⟨Ab, cb, rfl, hmb, _⟩ := HA6.out
      obtain ⟨he, hp⟩ := HL.out
      rw [hp]
      have hez : (((zs.length : Nat) : Int) == (n : Int) - 1) = true := by rw [beq_iff_eq]; omega
      have d1 : IntKind.i64.wrap ((n : Int) - 1) = (n : Int) - 1 := wraps_i64 _ (by omega) (by omega)
      have d2 := (wrap_eq _).symm.trans d1
      clear he hp hma hmb
      go_wp2
      go_ret
      exact ⟨rfl, step_below HB6.out hb7⟩
  · have e1 : ((1048576 : Int) < (L : Int)) = True := by simp; omega
    go_enter Tryd.func5, Tryd.ntmps5
    go_wp2
    go_ret
    exact ⟨rfl, Below.refl _ _⟩

end Go.Proofs.YthafhcocgohjaabDoor
