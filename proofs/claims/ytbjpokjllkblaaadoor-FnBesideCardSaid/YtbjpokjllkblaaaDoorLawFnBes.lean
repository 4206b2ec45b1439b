/-
  FnBeside: graphs beside each other have the edges and the parts of both.
-/
import Derived.Test.YtbjpokjllkblaaaDoorDrawBes
import Derived.Test.YtbjpokjllkblaaaDoorBesParts
import Derived.Test.YtbjpokjllkblaaaDoorSpecBes
import Derived.Test.YtbjpokjllkblaaaDoorImplBesY
import Derived.Test.YtbjpokjllkblaaaDoorGraphParts
import Derived.Test.YtbjpokjllkblaaaDoorImplEdges
import Derived.Test.YtbjpokjllkblaaaDoorSame
namespace Go.Proofs.YtbjpokjllkblaaaDoor
set_option linter.unusedVariables false
set_option linter.unusedSimpArgs false
open Go.RowKit

theorem bes_few (xs : List Int) : (edgesL xs).length ≤ 64 := by
  unfold edgesL
  split
  · rename_i h
    obtain ⟨_, h8, _⟩ := gIn_parts h
    have := pairsTo_len (gfun xs) xs.length xs.length
    unfold pairsOf
    rw [List.length_map]
    omega
  · simp
theorem bes_short (xs : List Int) : (partsOf xs).length ≤ 8 := by
  unfold partsOf
  split
  · rename_i h
    obtain ⟨_, h8, hok⟩ := gIn_parts h
    have := (parts_facts (gfun_pow hok) h8 xs.length (Nat.le_refl _)).2.2.2.1
    rw [List.length_map]
    omega
  · simp

set_option maxRecDepth 100000 in
set_option maxHeartbeats 4000000 in
theorem FnBeside_final (w : World) (A : Option Addr) (L cap : Nat) (hc : L ≤ cap) (hm : L ≤ maxLen) (hx : Code8 w A L) (hT : Tab w) :
    Calls Tryd.prog 3 #[.slice A L cap] w fun e w' => e = .returned (.bool true) ∧ Below w.heap.size w w' := by
  have HD := Lib.hid (DrawGraphBeside_any w A L cap hc hm hx)
  have HT := Lib.hid hT
  unfold maxLen at hm
  clear hx hT
  by_cases hbig : L ≤ 1048576
  · have e1 : ((1048576 : Int) < (L : Int)) = False := by simp; omega
    go_enter Tryd.func3, Tryd.ntmps3
    go_wp2_with fail
    refine HD.out.mono ?_
    rintro e w1 ⟨G, xs, H, ys, rfl, h1, h4, g1, g5, hI, hJ, hb1, hi, hj⟩
    have HI := Lib.hid hi
    have HJ := Lib.hid hj
    have HB1 := Lib.hid hb1
    have HII := Lib.hid hI
    have HJJ := Lib.hid hJ
    clear hI hJ hi hj hb1
    have hS := implBeside_any w1 _ _ xs ys HI.out HJ.out HII.out HJJ.out (HT.out.later HB1.out)
    have HP := Lib.hid (fun W (hW : Ints W (.slice (some ⟨G, 0, none⟩) xs.length xs.length) xs) (hV : Ints W (.slice (some ⟨H, 0, none⟩) ys.length ys.length) ys) => specBeside_any W _ _ xs ys hW hV)
    cases hg : besOk xs ys with
    | false =>
      obtain ⟨zs, hz⟩ : ∃ zs, besOf xs ys = zs := ⟨_, rfl⟩
      rw [hg, hz] at hS HP
      have HS := Lib.hid hS
      clear hS hg hz
      go_wp2_with fail
      refine HS.out.mono ?_
      rintro e w2 ⟨g0, rfl, hb2, ho2⟩
      go_wp2_with fail
      refine (HP.out _ (HI.out.below hb2) (HJ.out.below hb2)).mono ?_
      rintro e w3 ⟨s0, rfl, hb3, ho3⟩
      have HBB := Lib.hid (step_below (step_below HB1.out hb2) hb3)
      have HY1 := Lib.hid ((ints_of_owns ho2).below hb3)
      have HY2 := Lib.hid (ints_of_owns ho3)
      clear hb2 hb3 ho2 ho3
      go_wp2_with fail
      refine (sameInts_same _ _ _ zs HY1.out HY2.out).mono ?_
      rintro e w4 ⟨rfl, q, rfl⟩
      go_wp2_with fail
      refine (sameInts_same _ _ _ zs (HY1.out.drewN q) (HY2.out.drewN q)).mono ?_
      rintro e w5 ⟨rfl, q2, rfl⟩
      go_wp2
      go_ret
      exact ⟨rfl, below_drewN HBB.out _⟩
    | true =>
      have hok2 := hg
      unfold besOk at hok2
      simp only [Bool.and_eq_true, decide_eq_true_eq] at hok2
      obtain ⟨⟨hgx, hgy⟩, h8⟩ := hok2
      obtain ⟨hgz, hzI, hzl⟩ := bes_in hg
      have hpl := bes_parts hg
      have hel := bes_edges hg
      have hEx := fun W (u : Value) (hW : Ints W u xs) (hTW : Tab W) => implEdges_any W u xs hW HII.out hTW
      have hEy := fun W (u : Value) (hW : Ints W u ys) (hTW : Tab W) => implEdges_any W u ys hW HJJ.out hTW
      have hEz := fun W (u : Value) (hW : Ints W u (besOf xs ys)) (hTW : Tab W) => implEdges_any W u _ hW hzI hTW
      have hPx := fun W (u : Value) (hW : Ints W u xs) (hTW : Tab W) => implParts_any W u xs hW HII.out hTW
      have hPy := fun W (u : Value) (hW : Ints W u ys) (hTW : Tab W) => implParts_any W u ys hW HJJ.out hTW
      have hPz := fun W (u : Value) (hW : Ints W u (besOf xs ys)) (hTW : Tab W) => implParts_any W u _ hW hzI hTW
      rw [hgx] at hEx hPx
      rw [hgy] at hEy hPy
      rw [hgz] at hEz hPz
      have kx : (edgesL xs).length ≤ 64 := bes_few xs
      have ky : (edgesL ys).length ≤ 64 := bes_few ys
      have mx : (partsOf xs).length ≤ 8 := bes_short xs
      have my : (partsOf ys).length ≤ 8 := bes_short ys
      obtain ⟨ex, hex⟩ : ∃ l, edgesL xs = l := ⟨_, rfl⟩
      obtain ⟨ey, hey⟩ : ∃ l, edgesL ys = l := ⟨_, rfl⟩
      obtain ⟨ez, hez⟩ : ∃ l, edgesL (besOf xs ys) = l := ⟨_, rfl⟩
      obtain ⟨px, hpx⟩ : ∃ l, partsOf xs = l := ⟨_, rfl⟩
      obtain ⟨py, hpy⟩ : ∃ l, partsOf ys = l := ⟨_, rfl⟩
      obtain ⟨pz, hpz⟩ : ∃ l, partsOf (besOf xs ys) = l := ⟨_, rfl⟩
      rw [hex, hey, hez] at hel
      rw [hpx, hpy, hpz] at hpl
      rw [hex] at hEx kx
      rw [hey] at hEy ky
      rw [hez] at hEz
      rw [hpx] at hPx mx
      rw [hpy] at hPy my
      rw [hpz] at hPz
      have heli : (ez.length : Int) = (ex.length : Int) + (ey.length : Int) := by omega
      have hpli : (pz.length : Int) = (px.length : Int) + (py.length : Int) := by omega
      obtain ⟨zs, hz⟩ : ∃ zs, besOf xs ys = zs := ⟨_, rfl⟩
      rw [hg, hz] at hS HP
      rw [hz] at hEz hPz
      have HS := Lib.hid hS
      have HEX := Lib.hid hEx
      have HEY := Lib.hid hEy
      have HEZ := Lib.hid hEz
      have HPX := Lib.hid hPx
      have HPY := Lib.hid hPy
      have HPZ := Lib.hid hPz
      have HEL := Lib.hid heli
      have HPL := Lib.hid hpli
      clear hS hg hz hEx hEy hEz hPx hPy hPz hgx hgy hgz hzI hzl hex hey hez hpx hpy hpz hel hpl heli hpli
      go_wp2_with fail
      refine HS.out.mono ?_
      rintro e w2 ⟨g0, rfl, hb2, ho2⟩
      go_wp2_with fail
      refine (HP.out _ (HI.out.below hb2) (HJ.out.below hb2)).mono ?_
      rintro e w3 ⟨s0, rfl, hb3, ho3⟩
      have HBB := Lib.hid (step_below (step_below HB1.out hb2) hb3)
      have HI3 := Lib.hid ((HI.out.below hb2).below hb3)
      have HJ3 := Lib.hid ((HJ.out.below hb2).below hb3)
      have HY1 := Lib.hid ((ints_of_owns ho2).below hb3)
      have HY2 := Lib.hid (ints_of_owns ho3)
      clear hb2 hb3 ho2 ho3
      go_wp2_with fail
      refine (sameInts_same _ _ _ zs HY1.out HY2.out).mono ?_
      rintro e w4 ⟨rfl, q, rfl⟩
      have HB4 := Lib.hid (below_drewN HBB.out q)
      have HI4 := Lib.hid (HI3.out.drewN q)
      have HJ4 := Lib.hid (HJ3.out.drewN q)
      have HZ4 := Lib.hid (HY1.out.drewN q)
      obtain ⟨w5, hw5⟩ : ∃ w5, w3.drewN q = w5 := ⟨_, rfl⟩
      rw [hw5] at HB4 HI4 HJ4 HZ4
      rw [hw5]
      clear hw5
      go_wp2_with fail
      refine (HEX.out _ _ HI4.out (HT.out.later HB4.out)).mono ?_
      rintro e w6 ⟨a0, ua, rfl, hb6, ho6⟩
      obtain ⟨Aa, ca, rfl, _⟩ := (rows_of_owns ho6).at
      have HB6 := Lib.hid (step_below HB4.out hb6)
      have HI6 := Lib.hid (HI4.out.below hb6)
      have HJ6 := Lib.hid (HJ4.out.below hb6)
      have HZ6 := Lib.hid (HZ4.out.below hb6)
      clear hb6 ho6
      go_wp2_with fail
      refine (HEY.out _ _ HJ6.out (HT.out.later HB6.out)).mono ?_
      rintro e w7 ⟨b0, ub, rfl, hb7, ho7⟩
      obtain ⟨Ab, cb, rfl, _⟩ := (rows_of_owns ho7).at
      have HB7 := Lib.hid (step_below HB6.out hb7)
      have HI7 := Lib.hid (HI6.out.below hb7)
      have HJ7 := Lib.hid (HJ6.out.below hb7)
      have HZ7 := Lib.hid (HZ6.out.below hb7)
      clear hb7 ho7
      go_wp2_with fail
      refine (HEZ.out _ _ HZ7.out (HT.out.later HB7.out)).mono ?_
      rintro e w8 ⟨c0, uc, rfl, hb8, ho8⟩
      obtain ⟨Ac, cc, rfl, _⟩ := (rows_of_owns ho8).at
      have HB8 := Lib.hid (step_below HB7.out hb8)
      have HI8 := Lib.hid (HI7.out.below hb8)
      have HJ8 := Lib.hid (HJ7.out.below hb8)
      have HZ8 := Lib.hid (HZ7.out.below hb8)
      clear hb8 ho8
      go_wp2_with fail
      refine (HPX.out _ _ HI8.out (HT.out.later HB8.out)).mono ?_
      rintro e w9 ⟨d0, rfl, hb9, ho9⟩
      obtain ⟨Ad, cd, rfl, _⟩ := ints_of_owns ho9
      have HB9 := Lib.hid (step_below HB8.out hb9)
      have HJ9 := Lib.hid (HJ8.out.below hb9)
      have HZ9 := Lib.hid (HZ8.out.below hb9)
      clear hb9 ho9
      go_wp2_with fail
      refine (HPY.out _ _ HJ9.out (HT.out.later HB9.out)).mono ?_
      rintro e w10 ⟨e0, rfl, hb10, ho10⟩
      obtain ⟨Ae, ce, rfl, _⟩ := ints_of_owns ho10
      have HB10 := Lib.hid (step_below HB9.out hb10)
      have HZ10 := Lib.hid (HZ9.out.below hb10)
      clear hb10 ho10
      go_wp2_with fail
      refine (HPZ.out _ _ HZ10.out (HT.out.later HB10.out)).mono ?_
      rintro e w11 ⟨f0, rfl, hb11, ho11⟩
      obtain ⟨Af, cf, rfl, _⟩ := ints_of_owns ho11
      have HB11 := Lib.hid (step_below HB10.out hb11)
      clear hb11 ho11
      have heli := HEL.out
      have hpli := HPL.out
      go_wp2
      go_ret
      exact ⟨rfl, HB11.out⟩
  · have e1 : ((1048576 : Int) < (L : Int)) = True := by simp; omega
    go_enter Tryd.func3, Tryd.ntmps3
    go_wp2
    go_ret
    exact ⟨rfl, Below.refl _ _⟩

end Go.Proofs.YtbjpokjllkblaaaDoor
