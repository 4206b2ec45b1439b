/-
  FnWithout: a node fewer is its edges fewer.
-/
import Derived.Test.YthafhcocgohjaabDoorDrawOut
import Derived.Test.YthafhcocgohjaabDoorEdgeMath
import Derived.Test.YthafhcocgohjaabDoorDegreesAny
import Derived.Test.YthafhcocgohjaabDoorImplEdges
import Derived.Test.YthafhcocgohjaabDoorWithoutAny
import Derived.Test.YthafhcocgohjaabDoorSame
namespace Go.Proofs.YthafhcocgohjaabDoor
set_option linter.unusedVariables false
set_option linter.unusedSimpArgs false
open Go.RowKit

set_option maxRecDepth 100000 in
set_option maxHeartbeats 4000000 in
theorem FnWithout_final (w : World) (A : Option Addr) (L cap : Nat) (hc : L ≤ cap) (hm : L ≤ maxLen) (hx : Code8 w A L) (hT : Tab w) :
    Calls Tryd.prog 7 #[.slice A L cap] w fun e w' => e = .returned (.bool true) ∧ Below w.heap.size w w' := by
  have HD := Lib.hid (out_drawn w A L cap hc hm hx)
  have HT := Lib.hid hT
  unfold maxLen at hm
  clear hx hT
  by_cases hbig : L ≤ 1048576
  · have e1 : ((1048576 : Int) < (L : Int)) = False := by simp; omega
    go_enter Tryd.func7, Tryd.ntmps7
    go_wp2_with fail
    refine HD.out.mono ?_
    rintro e w1 ⟨G, xs, a, rfl, h1, h7, hI, ha, hb1, hi⟩
    have HI := Lib.hid hi
    have HB1 := Lib.hid hb1
    have HII := Lib.hid hI
    clear hI hi hb1
    have hS := implWithout_any w1 _ xs a HI.out HII.out (HT.out.later HB1.out)
    have HP := Lib.hid (fun W (hW : Ints W (.slice (some ⟨G, 0, none⟩) xs.length xs.length) xs) => specWithout_any W _ xs a hW)
    cases hg : outOk xs a with
    | false =>
      obtain ⟨ys, hy⟩ : ∃ ys, outOf xs a = ys := ⟨_, rfl⟩
      rw [hg, hy] at hS HP
      have HS := Lib.hid hS
      clear hS hg hy
      go_wp2_with fail
      refine HS.out.mono ?_
      rintro e w2 ⟨g0, rfl, hb2, ho2⟩
      go_wp2_with fail
      refine (HP.out _ (HI.out.below hb2)).mono ?_
      rintro e w3 ⟨s0, rfl, hb3, ho3⟩
      have HBB := Lib.hid (step_below (step_below HB1.out hb2) hb3)
      have HY1 := Lib.hid ((ints_of_owns ho2).below hb3)
      have HY2 := Lib.hid (ints_of_owns ho3)
      clear hb2 hb3 ho2 ho3
      go_wp2_with fail
      refine (sameInts_same _ _ _ ys HY1.out HY2.out).mono ?_
      rintro e w4 ⟨rfl, q, rfl⟩
      go_wp2_with fail
      refine (sameInts_same _ _ _ ys (HY1.out.drewN q) (HY2.out.drewN q)).mono ?_
      rintro e w5 ⟨rfl, q2, rfl⟩
      go_wp2
      go_ret
      exact ⟨rfl, below_drewN HBB.out _⟩
    | true =>
      obtain ⟨hgi, h2, ha0, han⟩ : gIn xs = true ∧ 2 ≤ xs.length ∧ 0 ≤ a ∧ a < (xs.length : Int) := by
        unfold outOk at hg
        rw [Bool.and_eq_true, decide_eq_true_eq] at hg
        exact hg
      obtain ⟨v, rfl⟩ : ∃ v : Nat, a = (v : Int) := ⟨a.toNat, by omega⟩
      have hv : v < xs.length := by omega
      obtain ⟨h1', h8, hok⟩ := gIn_parts hgi
      have hall := edges_without hgi h2 hv
      obtain ⟨_, hl2, hg2, hI2, _⟩ := out_facts hgi h2 hv
      have hL1 : (edgesL xs).length = (pairsTo (gfun xs) xs.length xs.length).length := by unfold edgesL; rw [if_pos hgi]; unfold pairsOf; rw [List.length_map]
      have hL2 : (edgesL (outOf xs (v : Int))).length = (pairsTo (gfun (outOf xs (v : Int))) (xs.length - 1) (xs.length - 1)).length := by unfold edgesL; rw [if_pos hg2, hl2]; unfold pairsOf; rw [List.length_map]
      rw [← hL1, ← hL2] at hall
      have hb1 : (edgesL xs).length ≤ 64 := by rw [hL1]; have := pairsTo_len (gfun xs) xs.length xs.length; omega
      have hE := fun W (hW : Ints W (.slice (some ⟨G, 0, none⟩) xs.length xs.length) xs) (hTW : Tab W) => implEdges_any W _ xs hW HII.out hTW
      rw [hgi] at hE
      have hD := fun W (hW : Ints W (.slice (some ⟨G, 0, none⟩) xs.length xs.length) xs) (hTW : Tab W) => implDegrees_any W _ xs hW HII.out hTW
      rw [hgi] at hD
      have hdo : degOf xs = glist xs.length (degs (gfun xs)) := by unfold degOf; rw [if_pos hgi]
      obtain ⟨ds, hds⟩ : ∃ ds, degOf xs = ds := ⟨_, rfl⟩
      rw [hds] at hD hdo
      have hdl : ds.length = xs.length := by rw [hdo, glist_len]
      have hdv : ∀ (hi : v < ds.length), ds[v] = (((bitsOf (gfun xs v)).length : Nat) : Int) := fun hi => by subst hdo; exact glist_at _ _ _ _
      obtain ⟨dv, hdve⟩ : ∃ dv, (bitsOf (gfun xs v)).length = dv := ⟨_, rfl⟩
      rw [hdve] at hall hdv
      obtain ⟨ys, hy⟩ : ∃ ys, outOf xs (v : Int) = ys := ⟨_, rfl⟩
      rw [hg, hy] at hS HP
      rw [hy] at hl2 hg2 hI2 hall
      have hE2 := fun W (u : Value) (hW : Ints W u ys) (hTW : Tab W) => implEdges_any W u ys hW hI2 hTW
      rw [hg2] at hE2
      obtain ⟨zs, hz⟩ : ∃ zs, edgesL xs = zs := ⟨_, rfl⟩
      obtain ⟨bs, hbs⟩ : ∃ bs, edgesL ys = bs := ⟨_, rfl⟩
      rw [hz] at hE hall hb1
      rw [hbs] at hE2 hall
      have HS := Lib.hid hS
      have HE := Lib.hid hE
      have HE2 := Lib.hid hE2
      have HDD := Lib.hid hD
      have HALL := Lib.hid (And.intro hall hb1)
      have HL2 := Lib.hid hl2
      have HDL := Lib.hid hdl
      have HDV := Lib.hid hdv
      clear hS hE hE2 hD hall hb1 hl2 hg2 hI2 hL1 hL2 hg hgi hok hdo hds hy hz hbs hdl hdv hdve ha
      go_wp2_with fail
      refine HS.out.mono ?_
      rintro e w2 ⟨g0, rfl, hb2, ho2⟩
      go_wp2_with fail
      refine (HP.out _ (HI.out.below hb2)).mono ?_
      rintro e w3 ⟨s0, rfl, hb3, ho3⟩
      have HBB := Lib.hid (step_below (step_below HB1.out hb2) hb3)
      have HI3 := Lib.hid ((HI.out.below hb2).below hb3)
      have HY1 := Lib.hid ((ints_of_owns ho2).below hb3)
      have HY2 := Lib.hid (ints_of_owns ho3)
      clear hb2 hb3 ho2 ho3
      go_wp2_with fail
      refine (sameInts_same _ _ _ ys HY1.out HY2.out).mono ?_
      rintro e w4 ⟨rfl, q, rfl⟩
      have HB4 := Lib.hid (below_drewN HBB.out q)
      go_wp2_with fail
      refine (HE.out _ (HI3.out.drewN q) (HT.out.later HB4.out)).mono ?_
      rintro e w5 ⟨x0, us0, rfl, hb5, ho5⟩
      have HB5 := Lib.hid (step_below HB4.out hb5)
      have HI5 := Lib.hid ((HI3.out.drewN q).below hb5)
      have HY5 := Lib.hid ((HY1.out.drewN q).below hb5)
      have HX5 := Lib.hid (rows_of_owns ho5)
      clear hb5 ho5
      go_wp2_with fail
      refine (HE2.out _ _ HY5.out (HT.out.later HB5.out)).mono ?_
      rintro e w6 ⟨z0, uz0, rfl, hb6, ho6⟩
      have HB6 := Lib.hid (step_below HB5.out hb6)
      have HI6 := Lib.hid (HI5.out.below hb6)
      have HY6 := Lib.hid (HY5.out.below hb6)
      have HX6 := Lib.hid (HX5.out.below hb6)
      have HZ6 := Lib.hid (rows_of_owns ho6)
      clear hb6 ho6
      go_wp2_with fail
      refine (HDD.out _ HI6.out (HT.out.later HB6.out)).mono ?_
      rintro e w7 ⟨d0, rfl, hb7, ho7⟩
      have HB7p := Lib.hid hb7
      obtain ⟨Aa, ca, rfl, hma, _⟩ := HX6.out.at
      obtain ⟨Ab, cb, rfl, hmb, _⟩ := HZ6.out.at
      obtain ⟨Ac, cc, rfl, hmc, _⟩ := HY6.out
      obtain ⟨Ad, cd, rfl, hmd, hcd⟩ := ints_of_owns ho7
      obtain ⟨b7, off7, rfl, hcell⟩ := hcd v (by rw [HDL.out]; exact hv)
      rw [HDV.out (by rw [HDL.out]; exact hv)] at hcell
      rw [HDL.out]
      obtain ⟨hall, hb64⟩ := HALL.out
      have hl2 := HL2.out
      obtain ⟨Y, hY⟩ : ∃ Y, ys.length = Y := ⟨_, rfl⟩
      obtain ⟨Z, hZ⟩ : ∃ Z, zs.length = Z := ⟨_, rfl⟩
      obtain ⟨B, hB⟩ : ∃ B, bs.length = B := ⟨_, rfl⟩
      rw [hY] at hl2 ⊢
      rw [hZ] at hall hb64 ⊢
      rw [hB] at hall ⊢
      have k1 : ((Y : Int) == (xs.length : Int) - 1) = true := by rw [beq_iff_eq]; omega
      have k2 : ((B : Int) == (Z : Int) - (dv : Int)) = true := by rw [beq_iff_eq]; omega
      have k3 : IntKind.i64.wrap ((xs.length : Int) - 1) = (xs.length : Int) - 1 := wraps_i64 _ (by omega) (by omega)
      have k4 := (wrap_eq _).symm.trans k3
      have k5 : IntKind.i64.wrap ((Z : Int) - (dv : Int)) = (Z : Int) - (dv : Int) := wraps_i64 _ (by omega) (by omega)
      have k6 := (wrap_eq _).symm.trans k5
      have hvi : (v : Int) < (xs.length : Int) := by omega
      clear hma hmb hmc hmd hcd ho7 hb7 hY hZ hB hall hb64 hl2
      go_wp2
      go_ret
      exact ⟨rfl, step_below HB6.out HB7p.out⟩
  · have e1 : ((1048576 : Int) < (L : Int)) = True := by simp; omega
    go_enter Tryd.func7, Tryd.ntmps7
    go_wp2
    go_ret
    exact ⟨rfl, Below.refl _ _⟩

end Go.Proofs.YthafhcocgohjaabDoor
