/-
  FnAbove: what is better for one side is worse for the other one.
-/
import Derived.Test.YtjbgjebbfkhidaaMkSt
import Derived.Test.YtjbgjebbfkhidaaJoinMath
import Derived.Test.YtjbgjebbfkhidaaImplAbove
import Derived.Test.YtjbgjebbfkhidaaImplMCost
import Derived.Test.YtjbgjebbfkhidaaDrawM2
namespace Go.Proofs.Ytjbgjebbfkhidaa
set_option linter.unusedVariables false
set_option linter.unusedSimpArgs false
open Go.RowKit

set_option maxRecDepth 100000 in
set_option maxHeartbeats 4000000 in
theorem FnAbove_final (w : World) (A : Option Addr) (L cap : Nat) (hc : L ≤ cap) (hm : L ≤ maxLen) (hx : Code8 w A L) :
    Calls Try.prog 4 #[.slice A L cap] w fun e w' => e = .returned (.bool true) ∧ Below w.heap.size w w' := by
  have HD := Lib.hid (DrawMarketAbove_any w A L cap hc hm hx)
  unfold maxLen at hm
  clear hx
  by_cases hbig : L ≤ 1048576
  · have e1 : ((1048576 : Int) < (L : Int)) = False := by simp; omega
    go_enter Try.func4, Try.ntmps4
    go_wp2_with fail
    refine HD.out.mono ?_
    rintro e w0 ⟨mL, mR, ls, rs, pv, xs, qv, ys, rfl, hM, hP, hQ⟩
    have ho1 := rows_one hM.l
    have ho2 := rows_one hM.r
    obtain ⟨Bm, hBm⟩ : ∃ Bm, w0.heap.size = Bm := ⟨_, rfl⟩
    obtain ⟨W2, hW2⟩ : ∃ W2, w0.alloc (.cells (two nilS nilS) 25) = W2 := ⟨_, rfl⟩
    have hb12 : Below w0.heap.size w0 W2 := by rw [← hW2]; exact (Below.refl _ _).alloc (Nat.le_refl _) _
    have hbx2 : W2.heap[Bm]? = some (.cells (two nilS nilS) 25 (0, 0)) := by rw [← hW2, ← hBm]; exact World.alloc_heap_new _ _
    obtain ⟨w1, hW3⟩ : ∃ w1, W2.setRow Bm (two mL mR) = w1 := ⟨_, rfl⟩
    have hb01 : Below w0.heap.size w0 w1 := by rw [← hW3]; exact below_setRow2 hb12 (by omega) _
    have hbx : w1.heap[Bm]? = some (.cells (two mL mR) 25 (0, 0)) := by rw [← hW3]; exact heap_setRow2 hbx2
    have HM : Hid (MkB w w1 Bm mL mR ls rs) := Lib.hid ⟨step_below hM.bel hb01, hM.l.below hb01, hM.r.below hb01, hbx⟩
    have HP := Lib.hid (hP.below hb01)
    have HQ := Lib.hid (hQ.below hb01)
    clear hM hb12 hb01 hP hQ
    go_wp2_with (first
      | (refine store_mi rfl _ _ rfl Bm mL mR rfl rfl nilS nilS ho1 ho2 hbx2 ?_; try rw [hW3])
      | (refine load_mi rfl _ rfl Bm mL mR rfl hbx ?_))
    clear hW2 hW3 hBm hbx2 ho1 ho2
    have HI := Lib.hid (fun (W : World) (hW : Below w1.heap.size w1 W) => implAbove_any W mL mR pv qv ls rs xs ys (HM.out.l.below hW) (HM.out.r.below hW) (HP.out.below hW) (HQ.out.below hW))
    have HS := Lib.hid (fun (W : World) (hW : Below w1.heap.size w1 W) => specAbove_any W mL mR pv qv ls rs xs ys (HM.out.l.below hW) (HM.out.r.below hW) (HP.out.below hW) (HQ.out.below hW))
    cases hok : aboveOk ls rs xs ys with
    | false =>
      rw [hok] at HI HS
      clear hok
      refine (HI.out _ (Below.refl w1.heap.size w1)).mono ?_
      rintro e w2 ⟨rfl, hb2⟩
      have HB2 := Lib.hid (step_below (Below.refl w1.heap.size w1) hb2)
      have hbx2 := kept_obj HB2.out HM.out.bx
      clear hb2
      go_wp2_with (refine load_mi rfl _ rfl Bm mL mR rfl (by assumption) ?_)
      refine (HS.out _ HB2.out).mono ?_
      rintro e w3 ⟨rfl, hb3⟩
      have HB3 := Lib.hid (step_below HB2.out hb3)
      have hbx3 := kept_obj HB3.out HM.out.bx
      clear hb3
      have HF := Lib.hid (step_below HM.out.bel HB3.out)
      go_wp2
      go_ret
      exact ⟨rfl, by first | exact HF.out | simpa using HF.out⟩
    | true =>
      obtain ⟨s1, s2, -⟩ := aboveOk_parts hok
      obtain ⟨k1, k2⟩ := above_costs hok
      have o1 := (stable_parts s1).1
      have o2 := (stable_parts s2).1
      have HC1 := Lib.hid (fun (W : World) (hW : Below w1.heap.size w1 W) => implCost_any W mL mR pv ls rs xs (HM.out.l.below hW) (HM.out.r.below hW) (HP.out.below hW))
      have HC2 := Lib.hid (fun (W : World) (hW : Below w1.heap.size w1 W) => implCost_any W mL mR qv ls rs ys (HM.out.l.below hW) (HM.out.r.below hW) (HQ.out.below hW))
      unfold GivesCost at HC1 HC2
      rw [o1] at HC1
      rw [o2] at HC2
      simp only [if_true] at HC1 HC2
      obtain ⟨ca, hca⟩ : ∃ c, sumI (costL ls xs) ls.length = c := ⟨_, rfl⟩
      obtain ⟨cb, hcb⟩ : ∃ c, sumI (costR rs xs) ls.length = c := ⟨_, rfl⟩
      obtain ⟨cc, hcc⟩ : ∃ c, sumI (costL ls ys) ls.length = c := ⟨_, rfl⟩
      obtain ⟨cd, hcd⟩ : ∃ c, sumI (costR rs ys) ls.length = c := ⟨_, rfl⟩
      rw [hca, hcb] at HC1
      rw [hcc, hcd] at HC2
      rw [hca, hcc] at k1
      rw [hcb, hcd] at k2
      rw [hok] at HI HS
      clear s1 s2 o1 o2 hok hca hcb hcc hcd
      refine (HI.out _ (Below.refl w1.heap.size w1)).mono ?_
      rintro e w2 ⟨rfl, hb2⟩
      have HB2 := Lib.hid (step_below (Below.refl w1.heap.size w1) hb2)
      have hbx2 := kept_obj HB2.out HM.out.bx
      clear hb2
      go_wp2_with (refine load_mi rfl _ rfl Bm mL mR rfl (by assumption) ?_)
      refine (HS.out _ HB2.out).mono ?_
      rintro e w3 ⟨rfl, hb3⟩
      have HB3 := Lib.hid (step_below HB2.out hb3)
      have hbx3 := kept_obj HB3.out HM.out.bx
      clear hb3
      go_wp2_with (refine load_mi rfl _ rfl Bm mL mR rfl (by assumption) ?_)
      refine (HC1.out _ HB3.out).mono ?_
      rintro e w4 ⟨rfl, hb4⟩
      have HB4 := Lib.hid (step_below HB3.out hb4)
      have hbx4 := kept_obj HB4.out HM.out.bx
      clear hb4
      go_wp2_with (refine load_mi rfl _ rfl Bm mL mR rfl (by assumption) ?_)
      refine (HC2.out _ HB4.out).mono ?_
      rintro e w5 ⟨rfl, hb5⟩
      have HB5 := Lib.hid (step_below HB4.out hb5)
      have hbx5 := kept_obj HB5.out HM.out.bx
      clear hb5
      have HF := Lib.hid (step_below HM.out.bel HB5.out)
      go_wp2
      go_ret
      exact ⟨rfl, by first | exact HF.out | simpa using HF.out⟩
  · have e1 : ((1048576 : Int) < (L : Int)) = True := by simp; omega
    go_enter Try.func4, Try.ntmps4
    go_wp2
    go_ret
    exact ⟨rfl, Below.refl _ _⟩

end Go.Proofs.Ytjbgjebbfkhidaa
