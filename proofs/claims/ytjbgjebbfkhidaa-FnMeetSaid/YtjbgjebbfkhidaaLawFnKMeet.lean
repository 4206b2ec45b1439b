/-
  FnMeet: the worse ones of two are stable.
-/
import Derived.Test.YtjbgjebbfkhidaaMkSt
import Derived.Test.YtjbgjebbfkhidaaJoinMath
import Derived.Test.YtjbgjebbfkhidaaImplAbove
import Derived.Test.YtjbgjebbfkhidaaImplJoin
import Derived.Test.YtjbgjebbfkhidaaImplMeet
import Derived.Test.YtjbgjebbfkhidaaImplMCost
import Derived.Test.YtjbgjebbfkhidaaCore1
import Derived.Test.YtjbgjebbfkhidaaDrawM2
namespace Go.Proofs.Ytjbgjebbfkhidaa
set_option linter.unusedVariables false
set_option linter.unusedSimpArgs false
open Go.RowKit

set_option maxRecDepth 100000 in
set_option maxHeartbeats 4000000 in
theorem FnMeet_final (w : World) (A : Option Addr) (L cap : Nat) (hc : L ≤ cap) (hm : L ≤ maxLen) (hx : Code8 w A L) :
    Calls Try.prog 6 #[.slice A L cap] w fun e w' => e = .returned (.bool true) ∧ Below w.heap.size w w' := by
  have HD := Lib.hid (DrawMarketMeet_any w A L cap hc hm hx)
  unfold maxLen at hm
  clear hx
  by_cases hbig : L ≤ 1048576
  · have e1 : ((1048576 : Int) < (L : Int)) = False := by simp; omega
    go_enter Try.func6, Try.ntmps6
    go_wp2_with fail
    refine HD.out.mono ?_
    rintro e w0 ⟨mL, mR, ls, rs, pv, xs, qv, ys, rfl, hM, hP, hQ⟩
    have ho1 := rows_one hM.l
    have ho2 := rows_one hM.r
    obtain ⟨Bm, hBm⟩ : ∃ Bm, w0.heap.size = Bm := ⟨_, rfl⟩
    obtain ⟨W2, hW2⟩ : ∃ W2, w0.alloc (.cells (two nilS nilS) 25) = W2 := ⟨_, rfl⟩
    have hb12 : Below w0.heap.size w0 W2 := by rw [← hW2]; exact (Below.refl _ _).alloc (Nat.le_refl _) _
    have hbx2 : W2.heap[Bm]? = some (.cells (two nilS nilS) 25 (0, 0)) := by rw [← hW2, ← hBm]; exact World.alloc_heap_new _ _
    obtain ⟨w1, hW3⟩ : ∃ w1, W2.setRow Bm (two mL mR) = w1 := ⟨_, rfl⟩
    have hb01 : Below w0.heap.size w0 w1 := by rw [← hW3]; exact below_setRow2 hb12 (by omega) _
    have hbx : w1.heap[Bm]? = some (.cells (two mL mR) 25 (0, 0)) := by rw [← hW3]; exact heap_setRow2 hbx2
    have HM : Hid (MkB w w1 Bm mL mR ls rs) := Lib.hid ⟨step_below hM.bel hb01, hM.l.below hb01, hM.r.below hb01, hbx⟩
    have HP := Lib.hid (hP.below hb01)
    have HQ := Lib.hid (hQ.below hb01)
    clear hM hb12 hb01 hP hQ
    go_wp2_with (first
      | (refine store_mi rfl _ _ rfl Bm mL mR rfl rfl nilS nilS ho1 ho2 hbx2 ?_; try rw [hW3])
      | (refine load_mi rfl _ rfl Bm mL mR rfl hbx ?_))
    clear hW2 hW3 hBm hbx2 ho1 ho2
    have HI := Lib.hid (fun (W : World) (hW : Below w1.heap.size w1 W) => implMeet_any W mL mR pv qv ls rs xs ys (HM.out.l.below hW) (HM.out.r.below hW) (HP.out.below hW) (HQ.out.below hW))
    have HS := Lib.hid (fun (W : World) (hW : Below w1.heap.size w1 W) => specSMeet_any W mL mR pv qv ls rs xs ys (HM.out.l.below hW) (HM.out.r.below hW) (HP.out.below hW) (HQ.out.below hW))
    cases hok : bothB ls rs xs ys with
    | false =>
      have HE := Lib.hid (chooseOf_no (better := false) hok)
      rw [hok] at HI HS
      clear hok
      refine (HI.out _ (Below.refl w1.heap.size w1)).mono ?_
      rintro e w2 ⟨v2, rfl, hb2, ho2⟩
      have HB2 := Lib.hid (step_below (Below.refl w1.heap.size w1) hb2)
      have hbx2 := kept_obj HB2.out HM.out.bx
      have HY1 := Lib.hid (show Ints _ v2 [] from by rw [HE.out] at ho2; exact ints_of_owns ho2)
      clear hb2
      go_wp2_with (refine load_mi rfl _ rfl Bm mL mR rfl (by assumption) ?_)
      refine (HS.out _ HB2.out).mono ?_
      rintro e w3 ⟨v3, rfl, hb3, ho3⟩
      replace HY1 := Lib.hid (HY1.out.below hb3)
      have HB3 := Lib.hid (step_below HB2.out hb3)
      have hbx3 := kept_obj HB3.out HM.out.bx
      have HY2 := Lib.hid (show Ints _ v3 [] from by rw [HE.out] at ho3; exact ints_of_owns ho3)
      clear hb3
      clear ho2 ho3
      go_wp2_with (refine load_mi rfl _ rfl Bm mL mR rfl (by assumption) ?_)
      refine (sameInts_same _ _ _ [] HY1.out HY2.out).mono ?_
      rintro e w4 ⟨rfl, q4, rfl⟩
      replace HY1 := Lib.hid (HY1.out.drewN q4)
      replace HY2 := Lib.hid (HY2.out.drewN q4)
      have HB4 := Lib.hid (below_drewN HB3.out q4)
      have hbx4 := kept_obj HB4.out HM.out.bx
      go_wp2_with (refine load_mi rfl _ rfl Bm mL mR rfl (by assumption) ?_)
      refine (sameInts_same _ _ _ [] HY1.out HY2.out).mono ?_
      rintro e w5 ⟨rfl, q5, rfl⟩
      replace HY1 := Lib.hid (HY1.out.drewN q5)
      replace HY2 := Lib.hid (HY2.out.drewN q5)
      have HB5 := Lib.hid (below_drewN HB4.out q5)
      have hbx5 := kept_obj HB5.out HM.out.bx
      have HF := Lib.hid (step_below HM.out.bel HB5.out)
      go_wp2
      go_ret
      exact ⟨rfl, by first | exact HF.out | simpa using HF.out⟩
    | true =>
      obtain ⟨s1, s2⟩ := bothB_parts hok
      have H := two_st s1 s2
      have hj := chooseOf_yes (better := true) hok
      have hm' := chooseOf_yes (better := false) hok
      have sj := join_stable H
      have sm := meet_stable H
      have ha1 := aboveOk_of s1 sm (meet_above H).1
      have ha2 := aboveOk_of s2 sm (meet_above H).2
      have hb1 : bothB ls rs xs (chooseTo ls xs ys false ls.length) = true := by unfold bothB; rw [s1, sm]; rfl
      have hjm : chooseOf ls rs xs (chooseTo ls xs ys false ls.length) true = xs := by rw [chooseOf_yes hb1]; exact join_meet H
      have hcL := meet_costL H
      have hcR := meet_costR H
      have op := (stable_parts s1).1
      have oq := (stable_parts s2).1
      have oj := (stable_parts sj).1
      have om := (stable_parts sm).1
      obtain ⟨js, hjs⟩ : ∃ js, chooseTo ls xs ys true ls.length = js := ⟨_, rfl⟩
      obtain ⟨ms, hms⟩ : ∃ ms, chooseTo ls xs ys false ls.length = ms := ⟨_, rfl⟩
      have HJ := Lib.hid (fun (W : World) (hW : Below w1.heap.size w1 W) => implJoin_any W mL mR pv qv ls rs xs ys (HM.out.l.below hW) (HM.out.r.below hW) (HP.out.below hW) (HQ.out.below hW))
      have HJ2 := Lib.hid (fun (W : World) (v : Value) (hW : Below w1.heap.size w1 W) (hv : Ints W v ms) => implJoin_any W mL mR pv v ls rs xs ms (HM.out.l.below hW) (HM.out.r.below hW) (HP.out.below hW) hv)
      have HCP := Lib.hid (fun (W : World) (hW : Below w1.heap.size w1 W) => implCost_any W mL mR pv ls rs xs (HM.out.l.below hW) (HM.out.r.below hW) (HP.out.below hW))
      have HCQ := Lib.hid (fun (W : World) (hW : Below w1.heap.size w1 W) => implCost_any W mL mR qv ls rs ys (HM.out.l.below hW) (HM.out.r.below hW) (HQ.out.below hW))
      have HCM := Lib.hid (fun (W : World) (v : Value) (hW : Below w1.heap.size w1 W) (hv : Ints W v ms) => implCost_any W mL mR v ls rs ms (HM.out.l.below hW) (HM.out.r.below hW) hv)
      have HCJ := Lib.hid (fun (W : World) (v : Value) (hW : Below w1.heap.size w1 W) (hv : Ints W v js) => implCost_any W mL mR v ls rs js (HM.out.l.below hW) (HM.out.r.below hW) hv)
      have HA1 := Lib.hid (fun (W : World) (v : Value) (hW : Below w1.heap.size w1 W) (hv : Ints W v ms) => implAbove_any W mL mR pv v ls rs xs ms (HM.out.l.below hW) (HM.out.r.below hW) (HP.out.below hW) hv)
      have HA2 := Lib.hid (fun (W : World) (v : Value) (hW : Below w1.heap.size w1 W) (hv : Ints W v ms) => implAbove_any W mL mR qv v ls rs ys ms (HM.out.l.below hW) (HM.out.r.below hW) (HQ.out.below hW) hv)
      rw [hj] at HJ
      rw [hm'] at HI HS
      rw [hms] at HI HS ha1 ha2 hb1 hjm hcL hcR om
      rw [hjs] at HJ hcL hcR oj
      rw [hok] at HI HS HJ
      rw [hb1, hjm] at HJ2
      rw [ha1] at HA1
      rw [ha2] at HA2
      unfold GivesCost at HCP HCQ HCM HCJ
      rw [op] at HCP
      rw [oq] at HCQ
      rw [om] at HCM
      rw [oj] at HCJ
      simp only [if_true] at HCP HCQ HCM HCJ
      have kp := cost_small op
      have kq := cost_small oq
      have kj := cost_small oj
      have km := cost_small om
      obtain ⟨a1, ha1'⟩ : ∃ c, sumI (costL ls xs) ls.length = c := ⟨_, rfl⟩
      obtain ⟨a2, ha2'⟩ : ∃ c, sumI (costR rs xs) ls.length = c := ⟨_, rfl⟩
      obtain ⟨b1, hb1'⟩ : ∃ c, sumI (costL ls ys) ls.length = c := ⟨_, rfl⟩
      obtain ⟨b2, hb2'⟩ : ∃ c, sumI (costR rs ys) ls.length = c := ⟨_, rfl⟩
      obtain ⟨c1, hc1'⟩ : ∃ c, sumI (costL ls ms) ls.length = c := ⟨_, rfl⟩
      obtain ⟨c2, hc2'⟩ : ∃ c, sumI (costR rs ms) ls.length = c := ⟨_, rfl⟩
      obtain ⟨d1, hd1'⟩ : ∃ c, sumI (costL ls js) ls.length = c := ⟨_, rfl⟩
      obtain ⟨d2, hd2'⟩ : ∃ c, sumI (costR rs js) ls.length = c := ⟨_, rfl⟩
      rw [ha1', ha2'] at HCP kp
      rw [hb1', hb2'] at HCQ kq
      rw [hc1', hc2'] at HCM km
      rw [hd1', hd2'] at HCJ kj
      rw [ha1', hb1', hc1', hd1'] at hcL
      rw [ha2', hb2', hc2', hd2'] at hcR
      obtain ⟨z1, hz1⟩ : ∃ z, a1 + b1 = z := ⟨_, rfl⟩
      obtain ⟨z2, hz2⟩ : ∃ z, a2 + b2 = z := ⟨_, rfl⟩
      rw [hz1] at hcL
      rw [hz2] at hcR
      have r1 : -9000000000000000000 ≤ z1 ∧ z1 ≤ 9000000000000000000 := by omega
      have r2 : -9000000000000000000 ≤ z2 ∧ z2 ≤ 9000000000000000000 := by omega
      have hw1 := wraps_i64 z1 (by omega) (by omega)
      have hw2 := wraps_i64 z2 (by clear hw1; omega) (by clear hw1; omega)
      have hw1' := (wrap_eq _).symm.trans hw1
      have hw2' := (wrap_eq _).symm.trans hw2
      have hcL' := hcL.symm
      have hcR' := hcR.symm
      clear hcL hcR kp kq kj km ha1' ha2' hb1' hb2' hc1' hc2' hd1' hd2' op oq oj om hjm hb1 ha1 ha2 hms hjs sm sj hj hm' H s1 s2 hok r1 r2
      refine (HI.out _ (Below.refl w1.heap.size w1)).mono ?_
      rintro e w2 ⟨v2, rfl, hb2, ho2⟩
      have HB2 := Lib.hid (step_below (Below.refl w1.heap.size w1) hb2)
      have hbx2 := kept_obj HB2.out HM.out.bx
      have HY1 := Lib.hid (ints_of_owns ho2)
      clear hb2
      go_wp2_with (refine load_mi rfl _ rfl Bm mL mR rfl (by assumption) ?_)
      refine (HS.out _ HB2.out).mono ?_
      rintro e w3 ⟨v3, rfl, hb3, ho3⟩
      replace HY1 := Lib.hid (HY1.out.below hb3)
      have HB3 := Lib.hid (step_below HB2.out hb3)
      have hbx3 := kept_obj HB3.out HM.out.bx
      have HY2 := Lib.hid (ints_of_owns ho3)
      clear hb3
      clear ho2 ho3
      go_wp2_with (refine load_mi rfl _ rfl Bm mL mR rfl (by assumption) ?_)
      refine (sameInts_same _ _ _ ms HY1.out HY2.out).mono ?_
      rintro e w4 ⟨rfl, q4, rfl⟩
      replace HY1 := Lib.hid (HY1.out.drewN q4)
      replace HY2 := Lib.hid (HY2.out.drewN q4)
      have HB4 := Lib.hid (below_drewN HB3.out q4)
      have hbx4 := kept_obj HB4.out HM.out.bx
      go_wp2_with (refine load_mi rfl _ rfl Bm mL mR rfl (by assumption) ?_)
      refine (HJ.out _ HB4.out).mono ?_
      rintro e w5 ⟨v5, rfl, hb5, ho5⟩
      replace HY1 := Lib.hid (HY1.out.below hb5)
      replace HY2 := Lib.hid (HY2.out.below hb5)
      have HB5 := Lib.hid (step_below HB4.out hb5)
      have hbx5 := kept_obj HB5.out HM.out.bx
      have HY5 := Lib.hid (ints_of_owns ho5)
      clear hb5
      clear ho5
      go_wp2_with (refine load_mi rfl _ rfl Bm mL mR rfl (by assumption) ?_)
      refine (HJ2.out _ _ HB5.out HY1.out).mono ?_
      rintro e w6 ⟨v6, rfl, hb6, ho6⟩
      replace HY1 := Lib.hid (HY1.out.below hb6)
      replace HY2 := Lib.hid (HY2.out.below hb6)
      replace HY5 := Lib.hid (HY5.out.below hb6)
      have HB6 := Lib.hid (step_below HB5.out hb6)
      have hbx6 := kept_obj HB6.out HM.out.bx
      have HY6 := Lib.hid (ints_of_owns ho6)
      clear hb6
      clear ho6
      go_wp2_with (refine load_mi rfl _ rfl Bm mL mR rfl (by assumption) ?_)
      refine (HCP.out _ HB6.out).mono ?_
      rintro e w7 ⟨rfl, hb7⟩
      replace HY1 := Lib.hid (HY1.out.below hb7)
      replace HY2 := Lib.hid (HY2.out.below hb7)
      replace HY5 := Lib.hid (HY5.out.below hb7)
      replace HY6 := Lib.hid (HY6.out.below hb7)
      have HB7 := Lib.hid (step_below HB6.out hb7)
      have hbx7 := kept_obj HB7.out HM.out.bx
      clear hb7
      go_wp2_with (refine load_mi rfl _ rfl Bm mL mR rfl (by assumption) ?_)
      refine (HCQ.out _ HB7.out).mono ?_
      rintro e w8 ⟨rfl, hb8⟩
      replace HY1 := Lib.hid (HY1.out.below hb8)
      replace HY2 := Lib.hid (HY2.out.below hb8)
      replace HY5 := Lib.hid (HY5.out.below hb8)
      replace HY6 := Lib.hid (HY6.out.below hb8)
      have HB8 := Lib.hid (step_below HB7.out hb8)
      have hbx8 := kept_obj HB8.out HM.out.bx
      clear hb8
      go_wp2_with (refine load_mi rfl _ rfl Bm mL mR rfl (by assumption) ?_)
      refine (HCM.out _ _ HB8.out HY1.out).mono ?_
      rintro e w9 ⟨rfl, hb9⟩
      replace HY1 := Lib.hid (HY1.out.below hb9)
      replace HY2 := Lib.hid (HY2.out.below hb9)
      replace HY5 := Lib.hid (HY5.out.below hb9)
      replace HY6 := Lib.hid (HY6.out.below hb9)
      have HB9 := Lib.hid (step_below HB8.out hb9)
      have hbx9 := kept_obj HB9.out HM.out.bx
      clear hb9
      go_wp2_with (refine load_mi rfl _ rfl Bm mL mR rfl (by assumption) ?_)
      refine (HCJ.out _ _ HB9.out HY5.out).mono ?_
      rintro e w10 ⟨rfl, hb10⟩
      replace HY1 := Lib.hid (HY1.out.below hb10)
      replace HY2 := Lib.hid (HY2.out.below hb10)
      replace HY5 := Lib.hid (HY5.out.below hb10)
      replace HY6 := Lib.hid (HY6.out.below hb10)
      have HB10 := Lib.hid (step_below HB9.out hb10)
      have hbx10 := kept_obj HB10.out HM.out.bx
      clear hb10
      go_wp2_with (refine load_mi rfl _ rfl Bm mL mR rfl (by assumption) ?_)
      refine (sameInts_same _ _ _ xs HY6.out (HP.out.below HB10.out)).mono ?_
      rintro e w11 ⟨rfl, q11, rfl⟩
      replace HY1 := Lib.hid (HY1.out.drewN q11)
      replace HY2 := Lib.hid (HY2.out.drewN q11)
      replace HY5 := Lib.hid (HY5.out.drewN q11)
      replace HY6 := Lib.hid (HY6.out.drewN q11)
      have HB11 := Lib.hid (below_drewN HB10.out q11)
      have hbx11 := kept_obj HB11.out HM.out.bx
      obtain ⟨m0, m1, _, _⟩ := two_cells (kept_obj HB11.out HM.out.bx)
      go_wp2_with fail
      clear m0 m1
      refine (HA1.out _ _ HB11.out HY1.out).mono ?_
      rintro e w12 ⟨rfl, hb12⟩
      replace HY1 := Lib.hid (HY1.out.below hb12)
      replace HY2 := Lib.hid (HY2.out.below hb12)
      replace HY5 := Lib.hid (HY5.out.below hb12)
      replace HY6 := Lib.hid (HY6.out.below hb12)
      have HB12 := Lib.hid (step_below HB11.out hb12)
      have hbx12 := kept_obj HB12.out HM.out.bx
      clear hb12
      obtain ⟨m0, m1, _, _⟩ := two_cells (kept_obj HB12.out HM.out.bx)
      go_wp2_with fail
      clear m0 m1
      refine (HA2.out _ _ HB12.out HY1.out).mono ?_
      rintro e w13 ⟨rfl, hb13⟩
      replace HY1 := Lib.hid (HY1.out.below hb13)
      replace HY2 := Lib.hid (HY2.out.below hb13)
      replace HY5 := Lib.hid (HY5.out.below hb13)
      replace HY6 := Lib.hid (HY6.out.below hb13)
      have HB13 := Lib.hid (step_below HB12.out hb13)
      have hbx13 := kept_obj HB13.out HM.out.bx
      clear hb13
      have HF := Lib.hid (step_below HM.out.bel HB13.out)
      go_wp2
      go_ret
      exact ⟨rfl, by first | exact HF.out | simpa using HF.out⟩
  · have e1 : ((1048576 : Int) < (L : Int)) = True := by simp; omega
    go_enter Try.func6, Try.ntmps6
    go_wp2
    go_ret
    exact ⟨rfl, Below.refl _ _⟩

end Go.Proofs.Ytjbgjebbfkhidaa
