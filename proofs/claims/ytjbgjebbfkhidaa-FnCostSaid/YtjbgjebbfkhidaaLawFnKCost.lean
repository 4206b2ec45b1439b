/-
  FnCost: costs are turned.
-/
import Derived.Test.YtjbgjebbfkhidaaMkSt
import Derived.Test.YtjbgjebbfkhidaaImplMCost
import Derived.Test.YtjbgjebbfkhidaaImplTurned
import Derived.Test.YtjbgjebbfkhidaaLawBack
import Derived.Test.YtjbgjebbfkhidaaDrawM1
namespace Go.Proofs.Ytjbgjebbfkhidaa
set_option linter.unusedVariables false
set_option linter.unusedSimpArgs false
open Go.RowKit

set_option maxRecDepth 100000 in
set_option maxHeartbeats 4000000 in
theorem FnCost_final (w : World) (A : Option Addr) (L cap : Nat) (hc : L ≤ cap) (hm : L ≤ maxLen) (hx : Code8 w A L) :
    Calls Try.prog 7 #[.slice A L cap] w fun e w' => e = .returned (.bool true) ∧ Below w.heap.size w w' := by
  have HD := Lib.hid (DrawMarketCost_any w A L cap hc hm hx)
  unfold maxLen at hm
  clear hx
  by_cases hbig : L ≤ 1048576
  · have e1 : ((1048576 : Int) < (L : Int)) = False := by simp; omega
    go_enter Try.func7, Try.ntmps7
    go_wp2_with fail
    refine HD.out.mono ?_
    rintro e w0 ⟨mL, mR, ls, rs, pv, xs, rfl, hM, h4, hP⟩
    have ho1 := rows_one hM.l
    have ho2 := rows_one hM.r
    obtain ⟨Bm, hBm⟩ : ∃ Bm, w0.heap.size = Bm := ⟨_, rfl⟩
    obtain ⟨W2, hW2⟩ : ∃ W2, w0.alloc (.cells (two nilS nilS) 25) = W2 := ⟨_, rfl⟩
    have hb12 : Below w0.heap.size w0 W2 := by rw [← hW2]; exact (Below.refl _ _).alloc (Nat.le_refl _) _
    have hbx2 : W2.heap[Bm]? = some (.cells (two nilS nilS) 25 (0, 0)) := by rw [← hW2, ← hBm]; exact World.alloc_heap_new _ _
    obtain ⟨w1, hW3⟩ : ∃ w1, W2.setRow Bm (two mL mR) = w1 := ⟨_, rfl⟩
    have hb01 : Below w0.heap.size w0 w1 := by rw [← hW3]; exact below_setRow2 hb12 (by omega) _
    have hbx : w1.heap[Bm]? = some (.cells (two mL mR) 25 (0, 0)) := by rw [← hW3]; exact heap_setRow2 hbx2
    have HM : Hid (MkB w w1 Bm mL mR ls rs) := Lib.hid ⟨step_below hM.bel hb01, hM.l.below hb01, hM.r.below hb01, hbx⟩
    have HP := Lib.hid (hP.below hb01)
    clear hM hb12 hb01 h4 hP
    go_wp2_with (first
      | (refine store_mi rfl _ _ rfl Bm mL mR rfl rfl nilS nilS ho1 ho2 hbx2 ?_; try rw [hW3])
      | (refine load_mi rfl _ rfl Bm mL mR rfl hbx ?_))
    clear hW2 hW3 hBm hbx2 ho1 ho2
    have HI := Lib.hid (fun (W : World) (hW : Below w1.heap.size w1 W) => implCost_any W mL mR pv ls rs xs (HM.out.l.below hW) (HM.out.r.below hW) (HP.out.below hW))
    have HS := Lib.hid (fun (W : World) (hW : Below w1.heap.size w1 W) => specCost_any W mL mR pv ls rs xs (HM.out.l.below hW) (HM.out.r.below hW) (HP.out.below hW))
    cases hok : pairOk ls rs xs with
    | false =>
      unfold GivesCost at HI HS
      rw [hok] at HI HS
      clear hok
      refine (HI.out _ (Below.refl w1.heap.size w1)).mono ?_
      rintro e w2 ⟨rfl, hb2⟩
      have HB2 := Lib.hid (step_below (Below.refl w1.heap.size w1) hb2)
      have hbx2 := kept_obj HB2.out HM.out.bx
      clear hb2
      go_wp2_with (refine load_mi rfl _ rfl Bm mL mR rfl (by assumption) ?_)
      refine (HS.out _ HB2.out).mono ?_
      rintro e w3 ⟨rfl, hb3⟩
      have HB3 := Lib.hid (step_below HB2.out hb3)
      have hbx3 := kept_obj HB3.out HM.out.bx
      clear hb3
      have HF := Lib.hid (step_below HM.out.bel HB3.out)
      go_wp2
      go_ret
      exact ⟨rfl, by first | exact HF.out | simpa using HF.out⟩
    | true =>
      obtain ⟨h1, h5, hrl, hpl, hls, hrs, hpr⟩ := pair_parts hok
      have hmk : mktOk ls rs = true := by unfold pairOk at hok; rw [Bool.and_eq_true] at hok; exact hok.1
      have HT := Lib.hid (fun (W : World) (hW : Below w1.heap.size w1 W) => implTurned_any W mL mR ls rs (HM.out.l.below hW) (HM.out.r.below hW))
      have HBK := Lib.hid (fun W (hW : Ints W pv xs) => lawBack_any W pv xs hW (by omega) (by rw [hpl]; exact (rank_parts hpr).2.1))
      have HBB := Lib.hid (fun W L' R' v' (a : IntRows W L' rs) (b : IntRows W R' ls) (c : Ints W v' (backOf xs)) => implCost_any W L' R' v' rs ls (backOf xs) a b c)
      unfold GivesCost at HI HS HBB
      rw [hok] at HI HS
      rw [hmk, (turned_yes hmk).1, (turned_yes hmk).2] at HT
      rw [pairOk_turn hok, hrl] at HBB
      simp only [if_true, cost_turn h1 h5 rs hpr, cost_turn2 h1 h5 ls hpr] at HI HS HBB
      obtain ⟨ca, hca⟩ : ∃ c, sumI (costL ls xs) ls.length = c := ⟨_, rfl⟩
      obtain ⟨cb, hcb⟩ : ∃ c, sumI (costR rs xs) ls.length = c := ⟨_, rfl⟩
      rw [hca, hcb] at HI HS HBB
      clear h1 h5 hrl hpl hls hrs hpr hmk hca hcb hok
      refine (HI.out _ (Below.refl w1.heap.size w1)).mono ?_
      rintro e w2 ⟨rfl, hb2⟩
      have HB2 := Lib.hid (step_below (Below.refl w1.heap.size w1) hb2)
      have hbx2 := kept_obj HB2.out HM.out.bx
      clear hb2
      go_wp2_with (refine load_mi rfl _ rfl Bm mL mR rfl (by assumption) ?_)
      refine (HS.out _ HB2.out).mono ?_
      rintro e w3 ⟨rfl, hb3⟩
      have HB3 := Lib.hid (step_below HB2.out hb3)
      have hbx3 := kept_obj HB3.out HM.out.bx
      clear hb3
      go_wp2_with (refine load_mi rfl _ rfl Bm mL mR rfl (by assumption) ?_)
      refine (HT.out _ HB3.out).mono ?_
      rintro e w4 ⟨A5, n5, c5, A6, n6, c6, rfl, hb4, hoX⟩
      have HB4 := Lib.hid (step_below HB3.out hb4)
      have hbx4 := kept_obj HB4.out HM.out.bx
      have HXL := Lib.hid hoX.left
      have HXR := Lib.hid hoX.right
      clear hb4
      clear hoX
      obtain ⟨Bt, hBt⟩ : ∃ Bt, w4.heap.size = Bt := ⟨_, rfl⟩
      obtain ⟨T4, hT4⟩ : ∃ T4, w4.alloc (.cells (two nilS nilS) 25) = T4 := ⟨_, rfl⟩
      have hbt4 : Below w4.heap.size w4 T4 := by rw [← hT4]; exact (Below.refl _ _).alloc (Nat.le_refl _) _
      have hbu4 : T4.heap[Bt]? = some (.cells (two nilS nilS) 25 (0, 0)) := by rw [← hT4, ← hBt]; exact World.alloc_heap_new _ _
      obtain ⟨wt4, hwt4⟩ : ∃ wt4, T4.setRow Bt (two (.slice A5 n5 c5) (.slice A6 n6 c6)) = wt4 := ⟨_, rfl⟩
      have hbv4 : Below w4.heap.size w4 wt4 := by rw [← hwt4]; exact below_setRow2 hbt4 (by omega) _
      have hBtx : wt4.heap[Bt]? = some (.cells (two (.slice A5 n5 c5) (.slice A6 n6 c6)) 25 (0, 0)) := by rw [← hwt4]; exact heap_setRow2 hbu4
      replace HXL := Lib.hid (HXL.out.below hbv4)
      replace HXR := Lib.hid (HXR.out.below hbv4)
      have HBt4 := Lib.hid (step_below HB4.out hbv4)
      have hbxt4 := kept_obj HBt4.out HM.out.bx
      clear hbt4 hbv4
      go_wp2_with (first
        | (refine store_mi rfl _ _ rfl Bt _ _ rfl rfl nilS nilS rfl rfl hbu4 ?_; try rw [hwt4])
        | (refine load_mi rfl _ rfl Bm mL mR rfl (by assumption) ?_))
      clear hT4 hwt4 hBt hbu4
      obtain ⟨t0, t1, _, _⟩ := two_cells (show wt4.drew.heap[Bt]? = some (.cells (two (.slice A5 n5 c5) (.slice A6 n6 c6)) 25 (0, 0)) from hBtx)
      have HKT := Lib.hid (fun (W : World) (hW : Below wt4.drew.heap.size wt4.drew W) => two_cells (kept_obj hW (show wt4.drew.heap[Bt]? = some (.cells (two (.slice A5 n5 c5) (.slice A6 n6 c6)) 25 (0, 0)) from hBtx)))
      have HBD := Lib.hid (show Below w1.heap.size w1 wt4.drew from below_drewN HBt4.out 1)
      go_region_held3 (fun W => W.cell? ⟨Bt, 0, none⟩ = some (.slice A5 n5 c5) ∧ W.cell? ⟨Bt, 1, none⟩ = some (.slice A6 n6 c6))
        (first | exact ⟨t0, t1⟩ | exact ⟨(HKT.out _ hb5).1, (HKT.out _ hb5).2.1⟩ | exact ⟨(HKT.out _ (step_below hb5 hb6)).1, (HKT.out _ (step_below hb5 hb6)).2.1⟩)
        (first
          | (go_at_call 13; refine (HBK.out _ (HP.out.below HBD.out)).mono ?_; rintro e w5 ⟨rfl, hb5, ho5⟩)
          | (go_at_call 17; refine (HBB.out _ _ _ _ (HXL.out.below (below_undrew hb5)) (HXR.out.below (below_undrew hb5)) (ints_of_owns ho5)).mono ?_; rintro e w6 ⟨rfl, hb6⟩))
      have HB6 := Lib.hid (step_below (step_below HBD.out hb5) hb6)
      have HF := Lib.hid (step_below HM.out.bel HB6.out)
      go_wp2
      go_ret
      exact ⟨rfl, by first | exact HF.out | simpa using HF.out⟩
  · have e1 : ((1048576 : Int) < (L : Int)) = True := by simp; omega
    go_enter Try.func7, Try.ntmps7
    go_wp2
    go_ret
    exact ⟨rfl, Below.refl _ _⟩

end Go.Proofs.Ytjbgjebbfkhidaa
