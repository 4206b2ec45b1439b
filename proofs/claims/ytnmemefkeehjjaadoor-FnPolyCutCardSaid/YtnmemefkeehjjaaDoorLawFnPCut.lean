/-
  FnPolyCut: matching polynomials with an edge and without it.
-/
import Derived.Test.YtnmemefkeehjjaaDoorDrawCut
import Derived.Test.YtnmemefkeehjjaaDoorLate1
import Derived.Test.YtnmemefkeehjjaaDoorPMatch
import Derived.Test.YtnmemefkeehjjaaDoorWithoutAny
import Derived.Test.YtnmemefkeehjjaaDoorSame
namespace Go.Proofs.YtnmemefkeehjjaaDoor
set_option linter.unusedVariables false
set_option linter.unusedSimpArgs false
open Go.RowKit

theorem lit_below1 (w : World) (o : Obj) : Below w.heap.size w (w.alloc o) := (Below.refl _ _).alloc (Nat.le_refl _) _
theorem ints_lit1 (w : World) (x : Int) : Ints (w.alloc (.cells #[Value.int .i64 x] 3)) (.slice (some ⟨w.heap.size, 0, none⟩) 1 1) [x] := by
  have := World.ownsRow_lit (base := w.heap.size) (e := 3) (size := 1) w #[.int .i64 x] 1 (Nat.le_refl _) (by simp [maxLen]) rfl
  exact ints_of_owns this

/-- What the law asks of the polynomials at an edge. -/
theorem pcut_facts {xs : List Int} {i j : Nat} (h : edgeB xs (i : Int) (j : Int) = true) (hi : i < xs.length) (hj : j < xs.length) (h7 : xs.length ≤ 7) (h3 : 3 ≤ xs.length) :
    ∃ lo hi2 : Nat, ((i < j ∧ hi2 = j ∧ lo = i) ∨ (j < i ∧ hi2 = i ∧ lo = j)) ∧
      outOk xs (hi2 : Int) = true ∧ (∀ x ∈ outOf xs (hi2 : Int), I64 x) ∧
      gIn (outOf (outOf xs (hi2 : Int)) (lo : Int)) = true ∧ outOk (outOf xs (hi2 : Int)) (lo : Int) = true ∧ (∀ x ∈ outOf (outOf xs (hi2 : Int)) (lo : Int), I64 x) ∧
      ∃ E F H : List Int, mpOf xs = E ∧ mpOf (cutOf xs (i : Int) (j : Int)) = F ∧ mpOf (outOf (outOf xs (hi2 : Int)) (lo : Int)) = H ∧
        timesOk H [-1] = true ∧ okPoly (trim (mulL H [-1])) = true ∧ okPoly F = true ∧ okPoly E = true ∧ trim (addL F (trim (mulL H [-1]))) = E := by
  obtain ⟨hij, hcl, hcn⟩ := cut_nums h hi hj
  obtain ⟨hgc, _⟩ := cut_back h
  obtain ⟨hg, _⟩ := edge_parts h
  obtain ⟨h1, h8, hok⟩ := gIn_parts hg
  obtain ⟨lo, hi2, hlt, h2n, hord, hwo⟩ : ∃ lo hi2 : Nat, lo < hi2 ∧ hi2 < xs.length ∧ ((i < j ∧ hi2 = j ∧ lo = i) ∨ (j < i ∧ hi2 = i ∧ lo = j)) ∧ ∀ s, wo (wo s i) j = wo (wo s lo) hi2 := by
    rcases Nat.lt_or_gt_of_ne hij with c | c
    · exact ⟨i, j, c, hj, .inl ⟨c, rfl, rfl⟩, fun s => rfl⟩
    · exact ⟨j, i, c, hi, .inr ⟨c, rfl, rfl⟩, fun s => wo_comm s i j⟩
  obtain ⟨o1, o2, _, o4, o5, o6, o7, o8⟩ := out_two hg h3 hlt h2n
  have hs := all256 h8
  have hp := poly_cut (n := xs.length) (F := nums (gfun xs) (2 ^ xs.length - 1)) (G := nums (gfun (cutOf xs (i : Int) (j : Int))) (2 ^ xs.length - 1)) (H := nums (gfun xs) (wo (wo (2 ^ xs.length - 1) lo) hi2)) h3 h8
    (fun k => nums_small hs k) (fun k => nums_small hs k) (fun k => ?_) (nums_none' hs) (nums_none' hs) (nums_none' (wo_256 (wo_256 hs))) (fun k => by rw [hcn, hwo])
  · refine ⟨lo, hi2, hord, o1, o2, o4, o5, o6, _, _, _, rfl, rfl, rfl, ?_⟩
    unfold mpOf
    rw [if_pos hg, if_pos hgc, if_pos o4, hcl, o7]
    have e : nums (gfun (outOf (outOf xs (hi2 : Int)) (lo : Int))) (2 ^ (xs.length - 2) - 1) = nums (gfun xs) (wo (wo (2 ^ xs.length - 1) lo) hi2) := funext o8
    rw [e]
    exact hp
  · have h1' := size_wo hs (v := lo) (by omega) (all_bit h8 (by omega))
    have hb : (wo (2 ^ xs.length - 1) lo).testBit hi2 = true := by
      have := wo_bit (2 ^ xs.length - 1) ⟨lo, by omega⟩ ⟨hi2, by omega⟩
      simp only at this
      rw [this, all_bit h8 h2n]
      simp
      omega
    have h2' := size_wo (wo_256 (v := lo) hs) (v := hi2) (by omega) hb
    have h3' := all_size ⟨xs.length, by omega⟩
    simp only at h3'
    exact Nat.le_trans (nums_bound (gfun xs) 5 _ (wo_256 (wo_256 hs)) (by omega) k) (by decide)

set_option maxRecDepth 100000 in
set_option maxHeartbeats 4000000 in
theorem FnPolyCut_final (w : World) (A : Option Addr) (L cap : Nat) (hc : L ≤ cap) (hm : L ≤ maxLen) (hx : Code8 w A L) (hT : Tab w) :
    Calls Tryd.prog 10 #[.slice A L cap] w fun e w' => e = .returned (.bool true) ∧ Below w.heap.size w w' := by
  have HD := Lib.hid (DrawGraphCut_any w A L cap hc hm hx)
  have HT := Lib.hid hT
  unfold maxLen at hm
  clear hx hT
  by_cases hbig : L ≤ 1048576
  · have e1 : ((1048576 : Int) < (L : Int)) = False := by simp; omega
    go_enter Tryd.func10, Tryd.ntmps10
    go_wp2_with fail
    refine HD.out.mono ?_
    rintro e w1 ⟨G, xs, a, b, rfl, h1, h7, hI, hb1, hi0⟩
    have HI := Lib.hid hi0
    have HB1 := Lib.hid hb1
    have hS := implCut_any w1 _ xs a b hi0 hI (HT.out.later hb1)
    have HP := Lib.hid (fun W (hW : Ints W (.slice (some ⟨G, 0, none⟩) xs.length xs.length) xs) => specCut_any W _ xs a b hW)
    have HII := Lib.hid hI
    clear hI hb1 hi0
    cases hg : edgeB xs a b with
    | false =>
      obtain ⟨ys, hy⟩ : ∃ ys, cutOf xs a b = ys := ⟨_, rfl⟩
      rw [hg, hy] at hS HP
      have HS := Lib.hid hS
      clear hS hg hy
      go_wp2_with fail
      refine HS.out.mono ?_
      rintro e w2 ⟨g0, rfl, hb2, ho2⟩
      go_wp2_with fail
      refine (HP.out _ (HI.out.below hb2)).mono ?_
      rintro e w3 ⟨s0, rfl, hb3, ho3⟩
      have HBB := Lib.hid (step_below (step_below HB1.out hb2) hb3)
      have HY1 := Lib.hid ((ints_of_owns ho2).below hb3)
      have HY2 := Lib.hid (ints_of_owns ho3)
      clear hb2 hb3 ho2 ho3
      go_wp2_with fail
      refine (sameInts_same _ _ _ ys HY1.out HY2.out).mono ?_
      rintro e w4 ⟨rfl, q, rfl⟩
      go_wp2_with fail
      refine (sameInts_same _ _ _ ys (HY1.out.drewN q) (HY2.out.drewN q)).mono ?_
      rintro e w5 ⟨rfl, q2, rfl⟩
      go_wp2
      go_ret
      exact ⟨rfl, below_drewN HBB.out _⟩
    | true =>
      obtain ⟨hgi, hI2, _, _, _⟩ := cut_back hg
      obtain ⟨hgx, i, j, rfl, rfl, hi, hj⟩ := edge_parts hg
      have hF := fun h3 => pcut_facts hg hi hj h7 h3
      have hME := fun W (u : Value) (hW : Ints W u xs) (hTW : Tab W) => implPMatch_any W u xs hW HII.out hTW
      have hMF := fun W (u : Value) (hW : Ints W u (cutOf xs (i : Int) (j : Int))) (hTW : Tab W) => implPMatch_any W u _ hW hI2 hTW
      rw [hgx] at hME
      rw [hgi] at hMF
      obtain ⟨ys, hy⟩ : ∃ ys, cutOf xs (i : Int) (j : Int) = ys := ⟨_, rfl⟩
      rw [hg, hy] at hS HP
      rw [hy] at hMF
      simp only [hy] at hF
      have HS := Lib.hid hS
      have HF := Lib.hid hF
      have HME := Lib.hid hME
      have HMF := Lib.hid hMF
      clear hS hg hy hgi hI2 hgx hF hME hMF hi hj
      go_wp2_with fail
      refine HS.out.mono ?_
      rintro e w2 ⟨g0, rfl, hb2, ho2⟩
      go_wp2_with fail
      refine (HP.out _ (HI.out.below hb2)).mono ?_
      rintro e w3 ⟨s0, rfl, hb3, ho3⟩
      have HBB := Lib.hid (step_below (step_below HB1.out hb2) hb3)
      have HI3 := Lib.hid ((HI.out.below hb2).below hb3)
      have HY1 := Lib.hid ((ints_of_owns ho2).below hb3)
      have HY2 := Lib.hid (ints_of_owns ho3)
      clear hb2 hb3 ho2 ho3
      go_wp2_with fail
      refine (sameInts_same _ _ _ ys HY1.out HY2.out).mono ?_
      rintro e w4 ⟨rfl, q, rfl⟩
      have HB4 := Lib.hid (below_drewN HBB.out q)
      have HI4 := Lib.hid (HI3.out.drewN q)
      have HY4 := Lib.hid (HY1.out.drewN q)
      by_cases h3 : xs.length < 3
      · have h3i : (xs.length : Int) < 3 := by omega
        clear h3
        go_wp2
        go_ret
        exact ⟨rfl, HB4.out⟩
      · have h3i : ¬ (xs.length : Int) < 3 := by omega
        obtain ⟨lo, hi2, hord, o1, oI, o4, o5, o6, E, F, H, hE, hFe, hH, t1, t2, t3, t4, t5⟩ := HF.out (by omega)
        obtain ⟨zs, hz⟩ : ∃ zs, outOf xs (hi2 : Int) = zs := ⟨_, rfl⟩
        rw [hz] at oI o4 o5 o6 hH
        have hW1 := fun W (u : Value) (hW : Ints W u xs) (hTW : Tab W) => implWithout_any W u xs (hi2 : Int) hW HII.out hTW
        rw [o1, hz] at hW1
        have hW2 := fun W (u : Value) (hW : Ints W u zs) (hTW : Tab W) => implWithout_any W u zs (lo : Int) hW oI hTW
        obtain ⟨zz, hzz⟩ : ∃ zz, outOf zs (lo : Int) = zz := ⟨_, rfl⟩
        rw [o5, hzz] at hW2
        rw [hzz] at o4 o6 hH
        have hMH := fun W (u : Value) (hW : Ints W u zz) (hTW : Tab W) => implPMatch_any W u zz hW o6 hTW
        rw [o4, hH] at hMH
        obtain ⟨NH, hNH⟩ : ∃ NH, trim (mulL H [-1]) = NH := ⟨_, rfl⟩
        have hTM := fun W u z (hu : Ints W u H) (hz : Ints W z [-1]) => implTimes_any W u z H [-1] hu hz
        have hAD := fun W u z (hu : Ints W u F) (hz : Ints W z NH) => implAdd_any W u z F NH hu hz
        rw [hNH] at t2 t5
        unfold madeOk madeList toldList at hTM hAD
        rw [t1, hNH, t2] at hTM
        rw [t3, t2, t5, t4] at hAD
        simp only [Bool.and_self, if_true] at hTM hAD
        have hme := HME.out
        have hmf := HMF.out
        rw [hE] at hme
        rw [hFe] at hmf
        have HW1 := Lib.hid hW1
        have HW2 := Lib.hid hW2
        have HMH := Lib.hid hMH
        have HTM := Lib.hid hTM
        have HAD := Lib.hid hAD
        have HE := Lib.hid hme
        have HFF := Lib.hid hmf
        clear h3 o1 oI o4 o5 o6 hE hFe hH t1 t2 t3 t4 t5 hz hzz hW1 hW2 hMH hTM hAD hme hmf hNH
        rcases hord with ⟨hij, rfl, rfl⟩ | ⟨hij, rfl, rfl⟩
        · have hord : (lo : Int) < (hi2 : Int) := by omega
          go_wp2_with fail
          refine (HW1.out _ _ HI4.out (HT.out.later HB4.out)).mono ?_
          rintro e w5 ⟨x0, rfl, hb5, ho5⟩
          have HB5 := Lib.hid (step_below HB4.out hb5)
          have HI5 := Lib.hid (HI4.out.below hb5)
          have HY5 := Lib.hid (HY4.out.below hb5)
          have HX5 := Lib.hid (ints_of_owns ho5)
          clear hb5 ho5
          go_wp2_with fail
          refine (HW2.out _ _ HX5.out (HT.out.later HB5.out)).mono ?_
          rintro e w6 ⟨y0, rfl, hb6, ho6⟩
          have HB6 := Lib.hid (step_below HB5.out hb6)
          have HI6 := Lib.hid (HI5.out.below hb6)
          have HY6 := Lib.hid (HY5.out.below hb6)
          have HZ6 := Lib.hid (ints_of_owns ho6)
          clear hb6 ho6
          go_wp2_with fail
          refine (HE.out _ _ HI6.out (HT.out.later HB6.out)).mono ?_
          rintro e w7 ⟨e0, rfl, hb7, ho7⟩
          have HB7 := Lib.hid (step_below HB6.out hb7)
          have HY7 := Lib.hid (HY6.out.below hb7)
          have HZ7 := Lib.hid (HZ6.out.below hb7)
          have HE7 := Lib.hid (ints_of_owns ho7)
          clear hb7 ho7
          go_wp2_with fail
          refine (HFF.out _ _ HY7.out (HT.out.later HB7.out)).mono ?_
          rintro e w8 ⟨f0, rfl, hb8, ho8⟩
          have HB8 := Lib.hid (step_below HB7.out hb8)
          have HZ8 := Lib.hid (HZ7.out.below hb8)
          have HE8 := Lib.hid (HE7.out.below hb8)
          have HF8 := Lib.hid (ints_of_owns ho8)
          clear hb8 ho8
          go_wp2_with fail
          refine (HMH.out _ _ HZ8.out (HT.out.later HB8.out)).mono ?_
          rintro e w9 ⟨h0, rfl, hb9, ho9⟩
          have HL := Lib.hid (ints_lit1 w9 (-1))
          have hlb := lit_below1 w9 (.cells #[.int .i64 (-1)] 3)
          have HB9 := Lib.hid (step_below (step_below HB8.out hb9) hlb)
          have HE9 := Lib.hid ((HE8.out.below hb9).below hlb)
          have HF9 := Lib.hid ((HF8.out.below hb9).below hlb)
          have HH9 := Lib.hid ((ints_of_owns ho9).below hlb)
          clear hb9 ho9 hlb
          go_wp2_with fail
          refine (HTM.out _ _ _ HH9.out HL.out).mono ?_
          rintro e w10 ⟨m0, rfl, hb10, ho10⟩
          have HB10 := Lib.hid (step_below HB9.out hb10)
          have HE10 := Lib.hid (HE9.out.below hb10)
          have HF10 := Lib.hid (HF9.out.below hb10)
          have HM10 := Lib.hid (ints_of_owns ho10)
          clear hb10 ho10
          go_wp2_with fail
          refine (HAD.out _ _ _ HF10.out HM10.out).mono ?_
          rintro e w11 ⟨a0, rfl, hb11, ho11⟩
          have HB11 := Lib.hid (step_below HB10.out hb11)
          have HE11 := Lib.hid (HE10.out.below hb11)
          have HA11 := Lib.hid (ints_of_owns ho11)
          clear hb11 ho11
          go_wp2_with fail
          refine (sameInts_same _ _ _ E HE11.out HA11.out).mono ?_
          rintro e w12 ⟨rfl, q2, rfl⟩
          go_wp2
          go_ret
          exact ⟨rfl, below_drewN HB11.out q2⟩
        · have hord : (lo : Int) < (hi2 : Int) := by omega
          go_wp2_with fail
          refine (HW1.out _ _ HI4.out (HT.out.later HB4.out)).mono ?_
          rintro e w5 ⟨x0, rfl, hb5, ho5⟩
          have HB5 := Lib.hid (step_below HB4.out hb5)
          have HI5 := Lib.hid (HI4.out.below hb5)
          have HY5 := Lib.hid (HY4.out.below hb5)
          have HX5 := Lib.hid (ints_of_owns ho5)
          clear hb5 ho5
          go_wp2_with fail
          refine (HW2.out _ _ HX5.out (HT.out.later HB5.out)).mono ?_
          rintro e w6 ⟨y0, rfl, hb6, ho6⟩
          have HB6 := Lib.hid (step_below HB5.out hb6)
          have HI6 := Lib.hid (HI5.out.below hb6)
          have HY6 := Lib.hid (HY5.out.below hb6)
          have HZ6 := Lib.hid (ints_of_owns ho6)
          clear hb6 ho6
          go_wp2_with fail
          refine (HE.out _ _ HI6.out (HT.out.later HB6.out)).mono ?_
          rintro e w7 ⟨e0, rfl, hb7, ho7⟩
          have HB7 := Lib.hid (step_below HB6.out hb7)
          have HY7 := Lib.hid (HY6.out.below hb7)
          have HZ7 := Lib.hid (HZ6.out.below hb7)
          have HE7 := Lib.hid (ints_of_owns ho7)
          clear hb7 ho7
          go_wp2_with fail
          refine (HFF.out _ _ HY7.out (HT.out.later HB7.out)).mono ?_
          rintro e w8 ⟨f0, rfl, hb8, ho8⟩
          have HB8 := Lib.hid (step_below HB7.out hb8)
          have HZ8 := Lib.hid (HZ7.out.below hb8)
          have HE8 := Lib.hid (HE7.out.below hb8)
          have HF8 := Lib.hid (ints_of_owns ho8)
          clear hb8 ho8
          go_wp2_with fail
          refine (HMH.out _ _ HZ8.out (HT.out.later HB8.out)).mono ?_
          rintro e w9 ⟨h0, rfl, hb9, ho9⟩
          have HL := Lib.hid (ints_lit1 w9 (-1))
          have hlb := lit_below1 w9 (.cells #[.int .i64 (-1)] 3)
          have HB9 := Lib.hid (step_below (step_below HB8.out hb9) hlb)
          have HE9 := Lib.hid ((HE8.out.below hb9).below hlb)
          have HF9 := Lib.hid ((HF8.out.below hb9).below hlb)
          have HH9 := Lib.hid ((ints_of_owns ho9).below hlb)
          clear hb9 ho9 hlb
          go_wp2_with fail
          refine (HTM.out _ _ _ HH9.out HL.out).mono ?_
          rintro e w10 ⟨m0, rfl, hb10, ho10⟩
          have HB10 := Lib.hid (step_below HB9.out hb10)
          have HE10 := Lib.hid (HE9.out.below hb10)
          have HF10 := Lib.hid (HF9.out.below hb10)
          have HM10 := Lib.hid (ints_of_owns ho10)
          clear hb10 ho10
          go_wp2_with fail
          refine (HAD.out _ _ _ HF10.out HM10.out).mono ?_
          rintro e w11 ⟨a0, rfl, hb11, ho11⟩
          have HB11 := Lib.hid (step_below HB10.out hb11)
          have HE11 := Lib.hid (HE10.out.below hb11)
          have HA11 := Lib.hid (ints_of_owns ho11)
          clear hb11 ho11
          go_wp2_with fail
          refine (sameInts_same _ _ _ E HE11.out HA11.out).mono ?_
          rintro e w12 ⟨rfl, q2, rfl⟩
          go_wp2
          go_ret
          exact ⟨rfl, below_drewN HB11.out q2⟩
  · have e1 : ((1048576 : Int) < (L : Int)) = True := by simp; omega
    go_enter Tryd.func10, Tryd.ntmps10
    go_wp2
    go_ret
    exact ⟨rfl, Below.refl _ _⟩

end Go.Proofs.YtnmemefkeehjjaaDoor
