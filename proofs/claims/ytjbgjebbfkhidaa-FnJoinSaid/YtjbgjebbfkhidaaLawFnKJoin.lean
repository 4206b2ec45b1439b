/-
  FnJoin: the better ones of two are stable.
-/
import Derived.Test.YtjbgjebbfkhidaaMkSt
import Derived.Test.YtjbgjebbfkhidaaJoinMath
import Derived.Test.YtjbgjebbfkhidaaImplAbove
import Derived.Test.YtjbgjebbfkhidaaImplJoin
import Derived.Test.YtjbgjebbfkhidaaCore1
import Derived.Test.YtjbgjebbfkhidaaDrawM2
namespace Go.Proofs.Ytjbgjebbfkhidaa
set_option linter.unusedVariables false
set_option linter.unusedSimpArgs false
open Go.RowKit

set_option maxRecDepth 100000 in
set_option maxHeartbeats 4000000 in
theorem FnJoin_final (w : World) (A : Option Addr) (L cap : Nat) (hc : L ≤ cap) (hm : L ≤ maxLen) (hx : Code8 w A L) :
    Calls Try.prog 5 #[.slice A L cap] w fun e w' => e = .returned (.bool true) ∧ Below w.heap.size w w' := by
  have HD := Lib.hid (DrawMarketJoin_any w A L cap hc hm hx)
  unfold maxLen at hm
  clear hx
  by_cases hbig : L ≤ 1048576
  · have e1 : ((1048576 : Int) < (L : Int)) = False := by simp; omega
    go_enter Try.func5, Try.ntmps5
    go_wp2_with fail
    refine HD.out.mono ?_
    rintro e w0 ⟨mL, mR, ls, rs, pv, xs, qv, ys, rfl, hM, hP, hQ⟩
    have ho1 := rows_one hM.l
    have ho2 := rows_one hM.r
    obtain ⟨Bm, hBm⟩ : ∃ Bm, w0.heap.size = Bm := ⟨_, rfl⟩
    obtain ⟨W2, hW2⟩ : ∃ W2, w0.alloc (.cells (two nilS nilS) 25) = W2 := ⟨_, rfl⟩
    have hb12 : Below w0.heap.size w0 W2 := by rw [← hW2]; exact (Below.refl _ _).alloc (Nat.le_refl _) _
    have hbx2 : W2.heap[Bm]? = some (.cells (two nilS nilS) 25 (0, 0)) := by rw [← hW2, ← hBm]; exact World.alloc_heap_new _ _
    obtain ⟨w1, hW3⟩ : ∃ w1, W2.setRow Bm (two mL mR) = w1 := ⟨_, rfl⟩
    have hb01 : Below w0.heap.size w0 w1 := by rw [← hW3]; exact below_setRow2 hb12 (by omega) _
    have hbx : w1.heap[Bm]? = some (.cells (two mL mR) 25 (0, 0)) := by rw [← hW3]; exact heap_setRow2 hbx2
    have HM : Hid (MkB w w1 Bm mL mR ls rs) := Lib.hid ⟨step_below hM.bel hb01, hM.l.below hb01, hM.r.below hb01, hbx⟩
    have HP := Lib.hid (hP.below hb01)
    have HQ := Lib.hid (hQ.below hb01)
    clear hM hb12 hb01 hP hQ
    go_wp2_with (first
      | (refine store_mi rfl _ _ rfl Bm mL mR rfl rfl nilS nilS ho1 ho2 hbx2 ?_; try rw [hW3])
      | (refine load_mi rfl _ rfl Bm mL mR rfl hbx ?_))
    clear hW2 hW3 hBm hbx2 ho1 ho2
    have HI := Lib.hid (fun (W : World) (hW : Below w1.heap.size w1 W) => implJoin_any W mL mR pv qv ls rs xs ys (HM.out.l.below hW) (HM.out.r.below hW) (HP.out.below hW) (HQ.out.below hW))
    have HS := Lib.hid (fun (W : World) (hW : Below w1.heap.size w1 W) => specSJoin_any W mL mR pv qv ls rs xs ys (HM.out.l.below hW) (HM.out.r.below hW) (HP.out.below hW) (HQ.out.below hW))
    cases hok : bothB ls rs xs ys with
    | false =>
      have HE := Lib.hid (chooseOf_no (better := true) hok)
      rw [hok] at HI HS
      clear hok
      refine (HI.out _ (Below.refl w1.heap.size w1)).mono ?_
      rintro e w2 ⟨v2, rfl, hb2, ho2⟩
      have HB2 := Lib.hid (step_below (Below.refl w1.heap.size w1) hb2)
      have hbx2 := kept_obj HB2.out HM.out.bx
      have HY1 := Lib.hid (show Ints _ v2 [] from by rw [HE.out] at ho2; exact ints_of_owns ho2)
      clear hb2
      go_wp2_with (refine load_mi rfl _ rfl Bm mL mR rfl (by assumption) ?_)
      refine (HS.out _ HB2.out).mono ?_
      rintro e w3 ⟨v3, rfl, hb3, ho3⟩
      replace HY1 := Lib.hid (HY1.out.below hb3)
      have HB3 := Lib.hid (step_below HB2.out hb3)
      have hbx3 := kept_obj HB3.out HM.out.bx
      have HY2 := Lib.hid (show Ints _ v3 [] from by rw [HE.out] at ho3; exact ints_of_owns ho3)
      clear hb3
      clear ho2 ho3
      go_wp2_with (refine load_mi rfl _ rfl Bm mL mR rfl (by assumption) ?_)
      refine (sameInts_same _ _ _ [] HY1.out HY2.out).mono ?_
      rintro e w4 ⟨rfl, q4, rfl⟩
      replace HY1 := Lib.hid (HY1.out.drewN q4)
      replace HY2 := Lib.hid (HY2.out.drewN q4)
      have HB4 := Lib.hid (below_drewN HB3.out q4)
      have hbx4 := kept_obj HB4.out HM.out.bx
      go_wp2_with (refine load_mi rfl _ rfl Bm mL mR rfl (by assumption) ?_)
      refine (sameInts_same _ _ _ [] HY1.out HY2.out).mono ?_
      rintro e w5 ⟨rfl, q5, rfl⟩
      replace HY1 := Lib.hid (HY1.out.drewN q5)
      replace HY2 := Lib.hid (HY2.out.drewN q5)
      have HB5 := Lib.hid (below_drewN HB4.out q5)
      have hbx5 := kept_obj HB5.out HM.out.bx
      have HF := Lib.hid (step_below HM.out.bel HB5.out)
      go_wp2
      go_ret
      exact ⟨rfl, by first | exact HF.out | simpa using HF.out⟩
    | true =>
      obtain ⟨s1, s2⟩ := bothB_parts hok
      have H := two_st s1 s2
      have hok2 : bothB ls rs ys xs = true := by unfold bothB; rw [s1, s2]; rfl
      have hc2 : chooseOf ls rs ys xs true = chooseOf ls rs xs ys true := by rw [chooseOf_yes hok2, chooseOf_yes hok, join_comm H]
      have HJ := Lib.hid (fun (W : World) (hW : Below w1.heap.size w1 W) => implJoin_any W mL mR qv pv ls rs ys xs (HM.out.l.below hW) (HM.out.r.below hW) (HQ.out.below hW) (HP.out.below hW))
      rw [hok2, hc2] at HJ
      have hj := chooseOf_yes (better := true) hok
      have ha1 : aboveOk ls rs (chooseOf ls rs xs ys true) xs = true := by rw [hj]; exact aboveOk_of (join_stable H) s1 (join_above H).1
      have ha2 : aboveOk ls rs (chooseOf ls rs xs ys true) ys = true := by rw [hj]; exact aboveOk_of (join_stable H) s2 (join_above H).2
      obtain ⟨js, hjs⟩ : ∃ js, chooseOf ls rs xs ys true = js := ⟨_, rfl⟩
      have HA1 := Lib.hid (fun (W : World) (v : Value) (hW : Below w1.heap.size w1 W) (hv : Ints W v js) => implAbove_any W mL mR v pv ls rs js xs (HM.out.l.below hW) (HM.out.r.below hW) hv (HP.out.below hW))
      have HA2 := Lib.hid (fun (W : World) (v : Value) (hW : Below w1.heap.size w1 W) (hv : Ints W v js) => implAbove_any W mL mR v qv ls rs js ys (HM.out.l.below hW) (HM.out.r.below hW) hv (HQ.out.below hW))
      rw [hjs] at ha1 ha2 HJ
      rw [hok, hjs] at HI HS
      rw [ha1] at HA1
      rw [ha2] at HA2
      clear s1 s2 H hc2 hok2 hj ha1 ha2 hjs hok
      refine (HI.out _ (Below.refl w1.heap.size w1)).mono ?_
      rintro e w2 ⟨v2, rfl, hb2, ho2⟩
      have HB2 := Lib.hid (step_below (Below.refl w1.heap.size w1) hb2)
      have hbx2 := kept_obj HB2.out HM.out.bx
      have HY1 := Lib.hid (ints_of_owns ho2)
      clear hb2
      go_wp2_with (refine load_mi rfl _ rfl Bm mL mR rfl (by assumption) ?_)
      refine (HS.out _ HB2.out).mono ?_
      rintro e w3 ⟨v3, rfl, hb3, ho3⟩
      replace HY1 := Lib.hid (HY1.out.below hb3)
      have HB3 := Lib.hid (step_below HB2.out hb3)
      have hbx3 := kept_obj HB3.out HM.out.bx
      have HY2 := Lib.hid (ints_of_owns ho3)
      clear hb3
      clear ho2 ho3
      go_wp2_with (refine load_mi rfl _ rfl Bm mL mR rfl (by assumption) ?_)
      refine (sameInts_same _ _ _ js HY1.out HY2.out).mono ?_
      rintro e w4 ⟨rfl, q4, rfl⟩
      replace HY1 := Lib.hid (HY1.out.drewN q4)
      replace HY2 := Lib.hid (HY2.out.drewN q4)
      have HB4 := Lib.hid (below_drewN HB3.out q4)
      have hbx4 := kept_obj HB4.out HM.out.bx
      go_wp2_with (refine load_mi rfl _ rfl Bm mL mR rfl (by assumption) ?_)
      refine (HJ.out _ HB4.out).mono ?_
      rintro e w5 ⟨v5, rfl, hb5, ho5⟩
      replace HY1 := Lib.hid (HY1.out.below hb5)
      replace HY2 := Lib.hid (HY2.out.below hb5)
      have HB5 := Lib.hid (step_below HB4.out hb5)
      have hbx5 := kept_obj HB5.out HM.out.bx
      have HY5 := Lib.hid (ints_of_owns ho5)
      clear hb5
      clear ho5
      go_wp2_with (refine load_mi rfl _ rfl Bm mL mR rfl (by assumption) ?_)
      refine (sameInts_same _ _ _ js HY5.out HY1.out).mono ?_
      rintro e w6 ⟨rfl, q6, rfl⟩
      replace HY1 := Lib.hid (HY1.out.drewN q6)
      replace HY2 := Lib.hid (HY2.out.drewN q6)
      replace HY5 := Lib.hid (HY5.out.drewN q6)
      have HB6 := Lib.hid (below_drewN HB5.out q6)
      have hbx6 := kept_obj HB6.out HM.out.bx
      obtain ⟨m0, m1, _, _⟩ := two_cells (kept_obj HB6.out HM.out.bx)
      go_wp2_with fail
      clear m0 m1
      refine (HA1.out _ _ HB6.out HY1.out).mono ?_
      rintro e w7 ⟨rfl, hb7⟩
      replace HY1 := Lib.hid (HY1.out.below hb7)
      replace HY2 := Lib.hid (HY2.out.below hb7)
      replace HY5 := Lib.hid (HY5.out.below hb7)
      have HB7 := Lib.hid (step_below HB6.out hb7)
      have hbx7 := kept_obj HB7.out HM.out.bx
      clear hb7
      obtain ⟨m0, m1, _, _⟩ := two_cells (kept_obj HB7.out HM.out.bx)
      go_wp2_with fail
      clear m0 m1
      refine (HA2.out _ _ HB7.out HY1.out).mono ?_
      rintro e w8 ⟨rfl, hb8⟩
      replace HY1 := Lib.hid (HY1.out.below hb8)
      replace HY2 := Lib.hid (HY2.out.below hb8)
      replace HY5 := Lib.hid (HY5.out.below hb8)
      have HB8 := Lib.hid (step_below HB7.out hb8)
      have hbx8 := kept_obj HB8.out HM.out.bx
      clear hb8
      have HF := Lib.hid (step_below HM.out.bel HB8.out)
      go_wp2
      go_ret
      exact ⟨rfl, by first | exact HF.out | simpa using HF.out⟩
  · have e1 : ((1048576 : Int) < (L : Int)) = True := by simp; omega
    go_enter Try.func5, Try.ntmps5
    go_wp2
    go_ret
    exact ⟨rfl, Below.refl _ _⟩

end Go.Proofs.Ytjbgjebbfkhidaa
