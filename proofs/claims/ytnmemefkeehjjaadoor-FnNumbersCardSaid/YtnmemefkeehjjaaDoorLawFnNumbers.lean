/-
  FnNumbers: matching numbers of an edge: with it and without it.
-/
import Derived.Test.YtnmemefkeehjjaaDoorDraw1
import Derived.Test.YtnmemefkeehjjaaDoorNumF
import Derived.Test.YtnmemefkeehjjaaDoorSpecGreat
import Derived.Test.YtnmemefkeehjjaaDoorImplNums
import Derived.Test.YtnmemefkeehjjaaDoorImplEdges
import Derived.Test.YtnmemefkeehjjaaDoorCutBoth
import Derived.Test.YtnmemefkeehjjaaDoorWithoutAny
import Derived.Test.YtnmemefkeehjjaaDoorSame
import Derived.Deep.RegionLaw
namespace Go.Proofs.YtnmemefkeehjjaaDoor
set_option linter.unusedVariables false
set_option linter.unusedSimpArgs false
open Go.RowKit

set_option maxRecDepth 100000 in
set_option maxHeartbeats 400000 in
theorem DrawMatchNumbers_some (w : World) (A : Option Addr) (L cap : Nat) (hc : L ≤ cap) (hm : L ≤ maxLen) (hx : Code8 w A L) :
    Calls Tryd.prog 32 #[.slice A L cap] w (GivesList w 7) := by
  have HO := Lib.hid (some_any w A L cap hc hm hx)
  clear hx hm hc
  go_enter Tryd.func32, Tryd.ntmps32
  go_wp2_with fail
  refine HO.out.mono ?_
  rintro e w1 ⟨G, xs, rfl, h1, h7, hI, hb1, hi⟩
  have HH := Lib.hid (And.intro hI (And.intro hb1 hi))
  clear hI hb1 hi
  go_wp2
  go_ret
  exact ⟨G, xs, rfl, h1, h7, HH.out.1, HH.out.2.1, HH.out.2.2⟩

/-- What the law asks of the numbers at an edge. -/
structure NumEdge (xs : List Int) (a b : Nat) (p : Nat → Nat) (ys zs zz ls ms : List Int) (q r : Nat → Nat) : Prop where
  cut : cutOf xs (a : Int) (b : Int) = ys
  eb : edgeB xs (a : Int) (b : Int) = true
  ycut : gIn ys = true
  yi : ∀ x ∈ ys, I64 x
  ynum : numsOf ys = ls
  yF : NumF ls q
  ok1 : outOk xs (b : Int) = true
  o1 : outOf xs (b : Int) = zs
  zi : ∀ x ∈ zs, I64 x
  ok2 : outOk zs (a : Int) = true
  o2 : outOf zs (a : Int) = zz
  zzi : ∀ x ∈ zz, I64 x
  zzg : gIn zz = true
  znum : numsOf zz = ms
  zF : NumF ms r
  rec0 : p 0 = q 0
  recS : ∀ k, p (k + 1) = q (k + 1) + r k
theorem num_edge {xs : List Int} {a b : Nat} (h : edgeB xs (a : Int) (b : Int) = true) (hab : a < b) (hb : b < xs.length) (h3 : 3 ≤ xs.length) :
    ∃ ys zs zz ls ms q r, NumEdge xs a b (nums (gfun xs) (2 ^ xs.length - 1)) ys zs zz ls ms q r := by
  obtain ⟨hij, hcl, hcn⟩ := cut_nums h (by omega) hb
  obtain ⟨hgc, hci, _⟩ := cut_back h
  obtain ⟨hg, _⟩ := edge_parts h
  obtain ⟨h1, h8, hok⟩ := gIn_parts hg
  obtain ⟨o1, o2, _, o4, o5, o6, o7, o8⟩ := out_two hg h3 hab hb
  have hs := all256 h8
  have hs2 : 2 ^ (xs.length - 2) - 1 < 256 := all256 (by omega)
  refine ⟨_, _, _, numL (gfun (cutOf xs (a : Int) (b : Int))) (2 ^ xs.length - 1), numL (gfun (outOf (outOf xs (b : Int)) (a : Int))) (2 ^ (xs.length - 2) - 1), _, _, rfl, h, hgc, hci, ?_, numF_of hs, o1, rfl, o2, o5, rfl, o6, o4, ?_, numF_of hs2, ?_, fun k => ?_⟩
  · unfold numsOf; rw [if_pos hgc, hcl]
  · unfold numsOf; rw [if_pos o4, o7]
  · rw [nums_none' hs, nums_none' hs]
  · rw [hcn, o8]

/-- A list read in later worlds. -/
theorem ints_cells {w : World} {v : Value} {xs : List Int} (h : Ints w v xs) : ∃ A cap, v = .slice A xs.length cap := by
  obtain ⟨A, cap, e, _⟩ := h; exact ⟨A, cap, e⟩
theorem ints_read {w : World} {A : Option Addr} {n cap : Nat} {xs : List Int} (h : Ints w (.slice A n cap) xs) {k : Nat} (hk : k < xs.length) : ∃ b off, A = some ⟨b, off, none⟩ ∧ w.cell? ⟨b, off + k, none⟩ = some (.int .i64 xs[k]) := by
  obtain ⟨A', cap', e, _, hc⟩ := h
  cases e
  exact hc k hk

/-- A stretch whose many ways end alike: what follows it is walked once. -/
theorem wp_once {P : Program} {c : Code} {Q : Exit → Act → World → Prop} {a : Act} {w : World} {α : Type} (R : α → World → Prop) {F : α → Act}
    (h1 : c.wp P (Exit.then (fun a' w' => ∃ x, R x w' ∧ a' = F x) (fun _ _ _ => False)) a w) (h2 : ∀ x w', R x w' → Q .normal (F x) w') : c.wp P Q a w :=
  Code.wp_mono (fun e _ _ h => by
    cases e <;> first | exact h.elim | skip
    obtain ⟨x, hr, ha⟩ := h
    subst ha
    exact h2 x _ hr) h1

set_option maxRecDepth 100000 in
set_option maxHeartbeats 4000000 in
theorem FnNumbers_final (w : World) (A : Option Addr) (L cap : Nat) (hc : L ≤ cap) (hm : L ≤ maxLen) (hx : Code8 w A L) (hT : Tab w) :
    Calls Tryd.prog 9 #[.slice A L cap] w fun e w' => e = .returned (.bool true) ∧ Below w.heap.size w w' := by
  have HD := Lib.hid (DrawMatchNumbers_some w A L cap hc hm hx)
  have HT := Lib.hid hT
  unfold maxLen at hm
  clear hx hT
  by_cases hbig : L ≤ 1048576
  · have e1 : ((1048576 : Int) < (L : Int)) = False := by simp; omega
    go_enter Tryd.func9, Tryd.ntmps9
    go_wp2_with fail
    refine HD.out.mono ?_
    rintro e w1 ⟨G, xs, rfl, h1, h7, hI, hb1, hi⟩
    have HI := Lib.hid hi
    have HB1 := Lib.hid hb1
    have HII := Lib.hid hI
    clear hI hi hb1
    have hS := implNumbers_any w1 _ xs HI.out HII.out (HT.out.later HB1.out)
    have HP := Lib.hid (fun W (hW : Ints W (.slice (some ⟨G, 0, none⟩) xs.length xs.length) xs) => specNumbers_any W _ xs hW)
    obtain ⟨os, hos⟩ : ∃ os, numsOf xs = os := ⟨_, rfl⟩
    rw [hos] at hS HP
    cases hg : gIn xs with
    | false =>
      rw [hg] at hS HP
      have HS := Lib.hid hS
      clear hS hg hos
      go_wp2_with fail
      refine HS.out.mono ?_
      rintro e w2 ⟨g0, rfl, hb2, ho2⟩
      go_wp2_with fail
      refine (HP.out _ (HI.out.below hb2)).mono ?_
      rintro e w3 ⟨s0, rfl, hb3, ho3⟩
      have HBB := Lib.hid (step_below (step_below HB1.out hb2) hb3)
      have HY1 := Lib.hid ((ints_of_owns ho2).below hb3)
      have HY2 := Lib.hid (ints_of_owns ho3)
      clear hb2 hb3 ho2 ho3
      go_wp2_with fail
      refine (sameInts_same _ _ _ os HY1.out HY2.out).mono ?_
      rintro e w4 ⟨rfl, q, rfl⟩
      go_wp2_with fail
      refine (sameInts_same _ _ _ os (HY1.out.drewN q) (HY2.out.drewN q)).mono ?_
      rintro e w5 ⟨rfl, q2, rfl⟩
      go_wp2
      go_ret
      exact ⟨rfl, below_drewN HBB.out _⟩
    | true =>
      rw [hg] at hS HP
      obtain ⟨_, h8, hoko⟩ := gIn_parts hg
      have hso := numF_of (f := gfun xs) (all256 h8)
      have hos2 : numsOf xs = numL (gfun xs) (2 ^ xs.length - 1) := by unfold numsOf; rw [if_pos hg]
      have hne := nums_edges hg
      have hNE := fun (a b : Nat) h1 h2 h3 h4 => num_edge (xs := xs) (a := a) (b := b) h1 h2 h3 h4
      rw [← hos2, hos] at hso
      have hEd := fun W (u : Value) (hW : Ints W u xs) (hTW : Tab W) => implEdges_any W u xs hW HII.out hTW
      rw [hg] at hEd
      have hfst := fun e l => edge_first (xs := xs) (e := e) (l := l)
      obtain ⟨zs, hz⟩ : ∃ zs, edgesL xs = zs := ⟨_, rfl⟩
      rw [hz] at hEd hne
      simp only [hz] at hfst
      obtain ⟨p, hp⟩ : ∃ p, nums (gfun xs) (2 ^ xs.length - 1) = p := ⟨_, rfl⟩
      rw [hp] at hso hne
      simp only [hp] at hNE
      have HS := Lib.hid hS
      have HG := Lib.hid hg
      have HNF := Lib.hid hso
      have HNE := Lib.hid hNE
      have HED := Lib.hid hEd
      have HFST := Lib.hid hfst
      have HLEN := Lib.hid hne
      clear hS hg hos hos2 hso hNE hEd hfst hne hoko hz hp
      go_wp2_with fail
      refine HS.out.mono ?_
      rintro e w2 ⟨g0, rfl, hb2, ho2⟩
      go_wp2_with fail
      refine (HP.out _ (HI.out.below hb2)).mono ?_
      rintro e w3 ⟨s0, rfl, hb3, ho3⟩
      have HBB := Lib.hid (step_below (step_below HB1.out hb2) hb3)
      have HI3 := Lib.hid ((HI.out.below hb2).below hb3)
      have HY1 := Lib.hid ((ints_of_owns ho2).below hb3)
      have HY2 := Lib.hid (ints_of_owns ho3)
      clear hb2 hb3 ho2 ho3
      go_wp2_with fail
      refine (sameInts_same _ _ _ os HY1.out HY2.out).mono ?_
      rintro e w4 ⟨rfl, q, rfl⟩
      have HB4 := Lib.hid (below_drewN HBB.out q)
      have HI4 := Lib.hid (HI3.out.drewN q)
      have HY4 := Lib.hid (HY1.out.drewN q)
      go_wp2_with fail
      refine (HED.out _ _ HI4.out (HT.out.later HB4.out)).mono ?_
      rintro e w5 ⟨e0, us, rfl, hb5, ho5⟩
      have HB5 := Lib.hid (step_below HB4.out hb5)
      have HI5 := Lib.hid (HI4.out.below hb5)
      have HY5 := Lib.hid (HY4.out.below hb5)
      have HR5 := Lib.hid ho5
      clear hb5 ho5
      obtain ⟨AO, capO, rfl⟩ := ints_cells HY5.out
      have hone := HNF.out.one
      have hfive := HNF.out.five
      have hz0 := HNF.out.zero
      have his := HNF.out.is 0 (by omega)
      rw [hz0] at his
      obtain ⟨bO, offO, rfl, hcO⟩ := ints_read HY5.out (k := 0) (by omega)
      rw [his] at hcO
      have hcO : w5.cell? ⟨bO, offO, none⟩ = some (.int .i64 1) := hcO
      have hone0 : (0 : Int) < (os.length : Int) := by omega
      cases zs with
      | nil =>
        obtain ⟨AE, capE, rfl, _⟩ := (rows_of_owns HR5.out).at
        clear hz0 his
        go_wp2
        go_ret
        exact ⟨rfl, HB5.out⟩
      | cons e l =>
        obtain ⟨a, b, rfl, hab, hbn, heb⟩ := HFST.out e l rfl
        obtain ⟨bb, off, capE, eb, eoff, cap2, rfl, hce, hca, hcb⟩ := row_first (rows_of_owns HR5.out)
        have hl0 : ((l.length : Int) + 1 == 0) = false := by rw [beq_eq_false_iff_ne]; omega
        by_cases h3 : xs.length < 3
        · have h3i : (xs.length : Int) < 3 := by omega
          clear h3 hz0 his hce hca hcb
          go_wp2
          go_ret
          exact ⟨rfl, HB5.out⟩
        · have h3i : ¬ (xs.length : Int) < 3 := by omega
          obtain ⟨ys, zz1, zz, ls, ms, qf, rf, HX⟩ := HNE.out a b heb hab hbn (by omega)
          have hC := fun W (u : Value) (hW : Ints W u xs) (hTW : Tab W) => implCut_any W u xs (a : Int) (b : Int) hW HII.out hTW
          rw [HX.eb, HX.cut] at hC
          have hN1 := fun W (u : Value) (hW : Ints W u ys) (hTW : Tab W) => implNumbers_any W u ys hW HX.yi hTW
          rw [HX.ycut, HX.ynum] at hN1
          have hW1 := fun W (u : Value) (hW : Ints W u xs) (hTW : Tab W) => implWithout_any W u xs (b : Int) hW HII.out hTW
          rw [HX.ok1, HX.o1] at hW1
          have hW2 := fun W (u : Value) (hW : Ints W u zz1) (hTW : Tab W) => implWithout_any W u zz1 (a : Int) hW HX.zi hTW
          rw [HX.ok2, HX.o2] at hW2
          have hN2 := fun W (u : Value) (hW : Ints W u zz) (hTW : Tab W) => implNumbers_any W u zz hW HX.zzi hTW
          rw [HX.zzg, HX.znum] at hN2
          have HC := Lib.hid hC
          have HN1 := Lib.hid hN1
          have HW1 := Lib.hid hW1
          have HW2 := Lib.hid hW2
          have HN2 := Lib.hid hN2
          have HQ := Lib.hid HX.yF
          have HRF := Lib.hid HX.zF
          have HR0 := Lib.hid HX.rec0
          have HRS := Lib.hid HX.recS
          have hli : (0 : Int) < ((l.length : Nat) : Int) + 1 := by omega
          clear h3 hz0 his hcO heb HX hC hN1 hW1 hW2 hN2
          go_wp2_with fail
          have HB5d := Lib.hid (below_drewN HB5.out 1)
          have HT5 := Lib.hid (HT.out.later HB5d.out)
          have HI5d := Lib.hid (HI5.out.drewN 1)
          apply wp_once (fun (y0 : Value) (w6 : World) => Below w5.heap.size w5.drew w6 ∧ Owns w6 w5.heap.size y0 ys)
          case h1 =>
            go_region_law (go_simp; go_at_call 37; refine (HC.out w5.drew _ HI5d.out HT5.out).mono ?_; rintro e w6 ⟨y0, rfl, hb6, ho6⟩)
            all_goals exact ⟨y0, ⟨hb6, ho6⟩, rfl⟩
          rintro y0 w6 ⟨hb6, ho6⟩
          replace hb6 : Below w5.drew.heap.size w5.drew w6 := hb6
          replace ho6 : Owns w6 w5.drew.heap.size y0 ys := ho6
          have HB6 := Lib.hid (step_below HB5d.out hb6)
          have HI6 := Lib.hid (HI5d.out.below hb6)
          have HO6 := Lib.hid ((HY5.out.drewN 1).below hb6)
          have HR6 := Lib.hid ((HR5.out.drewN 1).below hb6)
          have HY6 := Lib.hid (ints_of_owns ho6)
          clear hb6 ho6
          go_wp2_with fail
          refine (HN1.out _ _ HY6.out (HT.out.later HB6.out)).mono ?_
          rintro e w7 ⟨a0, rfl, hb7, ho7⟩
          have HB7 := Lib.hid (step_below HB6.out hb7)
          have HI7 := Lib.hid (HI6.out.below hb7)
          have HO7 := Lib.hid (HO6.out.below hb7)
          have HR7 := Lib.hid (HR6.out.below hb7)
          have HA7 := Lib.hid (ints_of_owns ho7)
          clear hb7 ho7 hce hca hcb
          obtain ⟨bb', off', capE', eb7, eoff7, cap7, hve, hce, hca, hcb⟩ := row_first (rows_of_owns HR7.out)
          cases hve
          go_wp2_with fail
          refine (HW1.out _ _ HI7.out (HT.out.later HB7.out)).mono ?_
          rintro e w8 ⟨x0, rfl, hb8, ho8⟩
          have HB8 := Lib.hid (step_below HB7.out hb8)
          have HO8 := Lib.hid (HO7.out.below hb8)
          have HR8 := Lib.hid (HR7.out.below hb8)
          have HA8 := Lib.hid (HA7.out.below hb8)
          have HX8 := Lib.hid (ints_of_owns ho8)
          clear hb8 ho8 hce hca hcb
          obtain ⟨bb', off', capE', eb8, eoff8, cap8, hve, hce, hca, hcb⟩ := row_first (rows_of_owns HR8.out)
          cases hve
          go_wp2_with fail
          refine (HW2.out _ _ HX8.out (HT.out.later HB8.out)).mono ?_
          rintro e w9 ⟨z0, rfl, hb9, ho9⟩
          have HB9 := Lib.hid (step_below HB8.out hb9)
          have HO9 := Lib.hid (HO8.out.below hb9)
          have HA9 := Lib.hid (HA8.out.below hb9)
          have HZ9 := Lib.hid (ints_of_owns ho9)
          clear hb9 ho9 hce hca hcb
          go_wp2_with fail
          refine (HN2.out _ _ HZ9.out (HT.out.later HB9.out)).mono ?_
          rintro e w10 ⟨b0, rfl, hb10, ho10⟩
          have HB10 := Lib.hid (step_below HB9.out hb10)
          have HO10 := Lib.hid (HO9.out.below hb10)
          have HA10 := Lib.hid (HA9.out.below hb10)
          have HM10 := Lib.hid (ints_of_owns ho10)
          clear hb10 ho10
          obtain ⟨AA, capA, rfl⟩ := ints_cells HA10.out
          obtain ⟨AM, capM, rfl⟩ := ints_cells HM10.out
          go_wp2
          go_loopw [20, 21] (fun k _ wr => ∃ i : Nat, i ≤ os.length ∧ k = .int .i64 i ∧ Below w10.heap.size w10 wr) (fun k _ _ => os.length - (intOf k).toNat)
          case atStart => exact ⟨0, by omega, rfl, Below.refl _ _⟩
          case round =>
            obtain ⟨k, hk, rfl, hbr⟩ := hrel
            have hOr := HO10.out.below hbr
            have hAr := HA10.out.below hbr
            have hMr := HM10.out.below hbr
            by_cases hlt : k < os.length
            · obtain ⟨_, _, he1, hcO⟩ := ints_read hOr hlt
              cases he1
              rw [HNF.out.is k hlt] at hcO
              have hki : (k : Int) < (os.length : Int) := by omega
              have hk64 : (k : Int) < 64 := by omega
              have hq43 := HQ.out.small k
              have hl1 := HQ.out.one
              rcases Nat.eq_zero_or_pos k with rfl | hpos
              · rw [HR0.out, HQ.out.zero] at hcO
                obtain ⟨bA, offA, rfl, hcA⟩ := ints_read hAr (k := 0) (by omega)
                rw [HQ.out.is 0 (by omega), HQ.out.zero] at hcA
                have hla : (0 : Int) < (ls.length : Int) := by omega
                have hcA : wr.cell? ⟨bA, offA, none⟩ = some (.int .i64 1) := hcA
                have hcO : wr.cell? ⟨bO, offO, none⟩ = some (.int .i64 1) := hcO
                clear hOr hAr hMr hq43
                go_wp2
                go_roundw
                all_goals first | exact ⟨1, by omega, rfl, hbr⟩ | (simp [intOf]; omega)
              · obtain ⟨j, hj⟩ : ∃ j, j + 1 = k := ⟨k - 1, by omega⟩
                have hrec := HRS.out j
                rw [hj] at hrec
                rw [hrec] at hcO
                have hr43 := HRF.out.small j
                have hj0 : (0 : Int) < (k : Int) := by omega
                have hm1 : (k : Int) - 1 = (j : Int) := by omega
                have hm2 : IntKind.i64.wrap ((k : Int) - 1) = (j : Int) := by rw [hm1]; exact wraps_i64 _ (by omega) (by omega)
                have hm3 := (wrap_eq _).symm.trans hm2
                obtain ⟨x, hx⟩ : ∃ x : Int, (qf k : Int) = x := ⟨_, rfl⟩
                obtain ⟨y, hy⟩ : ∃ y : Int, (rf j : Int) = y := ⟨_, rfl⟩
                have hx0 : 0 ≤ x := by omega
                have hx1 : x ≤ 43046721 := by omega
                have hy0 : 0 ≤ y := by omega
                have hy1 : y ≤ 43046721 := by omega
                rw [Int.natCast_add, hx, hy] at hcO
                have hkl : k + 1 ≤ os.length := by omega
                have hms : k + 1 - 1 = k := by omega
                by_cases ha : k < ls.length
                · obtain ⟨bA, offA, rfl, hcA⟩ := ints_read hAr ha
                  rw [HQ.out.is k ha, hx] at hcA
                  have hai : (k : Int) < (ls.length : Int) := by omega
                  by_cases hb : j < ms.length
                  · obtain ⟨bM, offM, rfl, hcM⟩ := ints_read hMr hb
                    rw [HRF.out.is j hb, hy] at hcM
                    have hbi : (j : Int) < (ms.length : Int) := by omega
                    have hj00 : (0 : Int) ≤ (j : Int) := by omega
                    clear hOr hAr hMr hx hy hrec hq43 hr43 ha hb hl1
                    go_wp2
                    go_roundw
                    all_goals first | exact ⟨k + 1, by omega, by go_num, hbr⟩ | (simp [intOf]; omega)
                  · have hz : rf j = 0 := HRF.out.far j (by omega)
                    rw [hz] at hy
                    obtain rfl : y = 0 := by omega
                    rw [Int.add_zero] at hcO
                    have hbi : ¬ (j : Int) < (ms.length : Int) := by omega
                    clear hOr hAr hMr hx hy hrec hq43 hr43 ha hb hl1 hz hy0 hy1
                    go_wp2
                    go_roundw
                    all_goals first | exact ⟨k + 1, by omega, by go_num, hbr⟩ | (simp [intOf]; omega)
                · have hz : qf k = 0 := HQ.out.far k (by omega)
                  rw [hz] at hx
                  obtain rfl : x = 0 := by omega
                  rw [Int.zero_add] at hcO
                  have hai : ¬ (k : Int) < (ls.length : Int) := by omega
                  by_cases hb : j < ms.length
                  · obtain ⟨bM, offM, rfl, hcM⟩ := ints_read hMr hb
                    rw [HRF.out.is j hb, hy] at hcM
                    have hbi : (j : Int) < (ms.length : Int) := by omega
                    have hj00 : (0 : Int) ≤ (j : Int) := by omega
                    clear hOr hAr hMr hx hy hrec hq43 hr43 ha hb hl1 hz hx0 hx1
                    go_wp2
                    go_roundw
                    all_goals first | exact ⟨k + 1, by omega, by go_num, hbr⟩ | (simp [intOf]; omega)
                  · have hz2 : rf j = 0 := HRF.out.far j (by omega)
                    rw [hz2] at hy
                    obtain rfl : y = 0 := by omega
                    have hbi : ¬ (j : Int) < (ms.length : Int) := by omega
                    clear hOr hAr hMr hx hy hrec hq43 hr43 ha hb hl1 hz hx0 hx1 hz2 hy0 hy1
                    go_wp2
                    go_roundw
                    all_goals first | exact ⟨k + 1, by omega, by go_num, hbr⟩ | (simp [intOf]; omega)
            · obtain rfl : k = os.length := by omega
              obtain ⟨_, _, he1, hc0⟩ := ints_read hOr (k := 0) (by omega)
              cases he1
              rw [HNF.out.is 0 (by omega), HNF.out.zero] at hc0
              have hc0 : wr.cell? ⟨bO, offO, none⟩ = some (.int .i64 1) := hc0
              by_cases h2 : os.length < 2
              · have h2i : (os.length : Int) < 2 := by omega
                clear hOr hAr hMr h2
                go_wp2
                go_ret
                exact ⟨rfl, step_below HB10.out hbr⟩
              · have h2i : ¬ (os.length : Int) < 2 := by omega
                have h1i : (1 : Int) < (os.length : Int) := by omega
                obtain ⟨_, _, he2, hc1⟩ := ints_read hOr (k := 1) (by omega)
                cases he2
                have hlen := HLEN.out
                rw [List.length_cons] at hlen
                rw [HNF.out.is 1 (by omega), hlen, Int.natCast_add] at hc1
                clear hOr hAr hMr h2 hlen
                go_wp2
                go_ret
                exact ⟨rfl, step_below HB10.out hbr⟩
  · have e1 : ((1048576 : Int) < (L : Int)) = True := by simp; omega
    go_enter Tryd.func9, Tryd.ntmps9
    go_wp2
    go_ret
    exact ⟨rfl, Below.refl _ _⟩

end Go.Proofs.YtnmemefkeehjjaaDoor
