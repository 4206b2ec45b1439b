/-
  FnBlocks: as many block in the market turned.
-/
import Derived.Test.YtjbgjebbfkhidaaMkSt
import Derived.Test.YtjbgjebbfkhidaaImplBlocks
import Derived.Test.YtjbgjebbfkhidaaImplTurned
import Derived.Test.YtjbgjebbfkhidaaCore1
import Derived.Test.YtjbgjebbfkhidaaLawBack
import Derived.Test.YtjbgjebbfkhidaaDrawM1
namespace Go.Proofs.Ytjbgjebbfkhidaa
set_option linter.unusedVariables false
set_option linter.unusedSimpArgs false
open Go.RowKit

set_option maxRecDepth 100000 in
set_option maxHeartbeats 4000000 in
theorem FnBlocks_final (w : World) (A : Option Addr) (L cap : Nat) (hc : L ≤ cap) (hm : L ≤ maxLen) (hx : Code8 w A L) :
    Calls Try.prog 3 #[.slice A L cap] w fun e w' => e = .returned (.bool true) ∧ Below w.heap.size w w' := by
  have HD := Lib.hid (DrawMarketBlocks_any w A L cap hc hm hx)
  unfold maxLen at hm
  clear hx
  by_cases hbig : L ≤ 1048576
  · have e1 : ((1048576 : Int) < (L : Int)) = False := by simp; omega
    go_enter Try.func3, Try.ntmps3
    go_wp2_with fail
    refine HD.out.mono ?_
    rintro e w0 ⟨mL, mR, ls, rs, pv, xs, rfl, hM, h4, hP⟩
    have ho1 := rows_one hM.l
    have ho2 := rows_one hM.r
    obtain ⟨Bm, hBm⟩ : ∃ Bm, w0.heap.size = Bm := ⟨_, rfl⟩
    obtain ⟨W2, hW2⟩ : ∃ W2, w0.alloc (.cells (two nilS nilS) 25) = W2 := ⟨_, rfl⟩
    have hb12 : Below w0.heap.size w0 W2 := by rw [← hW2]; exact (Below.refl _ _).alloc (Nat.le_refl _) _
    have hbx2 : W2.heap[Bm]? = some (.cells (two nilS nilS) 25 (0, 0)) := by rw [← hW2, ← hBm]; exact World.alloc_heap_new _ _
    obtain ⟨w1, hW3⟩ : ∃ w1, W2.setRow Bm (two mL mR) = w1 := ⟨_, rfl⟩
    have hb01 : Below w0.heap.size w0 w1 := by rw [← hW3]; exact below_setRow2 hb12 (by omega) _
    have hbx : w1.heap[Bm]? = some (.cells (two mL mR) 25 (0, 0)) := by rw [← hW3]; exact heap_setRow2 hbx2
    have HM : Hid (MkB w w1 Bm mL mR ls rs) := Lib.hid ⟨step_below hM.bel hb01, hM.l.below hb01, hM.r.below hb01, hbx⟩
    have HP := Lib.hid (hP.below hb01)
    clear hM hb12 hb01 h4 hP
    go_wp2_with (first
      | (refine store_mi rfl _ _ rfl Bm mL mR rfl rfl nilS nilS ho1 ho2 hbx2 ?_; try rw [hW3])
      | (refine load_mi rfl _ rfl Bm mL mR rfl hbx ?_))
    clear hW2 hW3 hBm hbx2 ho1 ho2
    have HI := Lib.hid (fun (W : World) (hW : Below w1.heap.size w1 W) => implBlocks_any W mL mR pv ls rs xs (HM.out.l.below hW) (HM.out.r.below hW) (HP.out.below hW))
    have HS := Lib.hid (fun (W : World) (hW : Below w1.heap.size w1 W) => specBlocks_any W mL mR pv ls rs xs (HM.out.l.below hW) (HM.out.r.below hW) (HP.out.below hW))
    cases hok : pairOk ls rs xs with
    | false =>
      have HE := Lib.hid (blocksL_no hok)
      rw [hok] at HI HS
      clear hok
      refine (HI.out _ (Below.refl w1.heap.size w1)).mono ?_
      rintro e w2 ⟨v2, us2, rfl, hb2, ho2⟩
      have HB2 := Lib.hid (step_below (Below.refl w1.heap.size w1) hb2)
      have hbx2 := kept_obj HB2.out HM.out.bx
      have HY1 := Lib.hid (show IntRows _ v2 [] from by rw [HE.out] at ho2; exact rows_of_owns ho2)
      clear hb2
      go_wp2_with (refine load_mi rfl _ rfl Bm mL mR rfl (by assumption) ?_)
      refine (HS.out _ HB2.out).mono ?_
      rintro e w3 ⟨v3, us3, rfl, hb3, ho3⟩
      replace HY1 := Lib.hid (HY1.out.below hb3)
      have HB3 := Lib.hid (step_below HB2.out hb3)
      have hbx3 := kept_obj HB3.out HM.out.bx
      have HY2 := Lib.hid (show IntRows _ v3 [] from by rw [HE.out] at ho3; exact rows_of_owns ho3)
      clear hb3
      clear ho2 ho3
      go_wp2_with (refine load_mi rfl _ rfl Bm mL mR rfl (by assumption) ?_)
      refine (sameRows_same _ _ _ [] HY1.out HY2.out).mono ?_
      rintro e w4 ⟨rfl, q4, rfl⟩
      replace HY1 := Lib.hid (HY1.out.drewN q4)
      replace HY2 := Lib.hid (HY2.out.drewN q4)
      have HB4 := Lib.hid (below_drewN HB3.out q4)
      have hbx4 := kept_obj HB4.out HM.out.bx
      go_wp2_with (refine load_mi rfl _ rfl Bm mL mR rfl (by assumption) ?_)
      refine (sameRows_same _ _ _ [] HY1.out HY2.out).mono ?_
      rintro e w5 ⟨rfl, q5, rfl⟩
      replace HY1 := Lib.hid (HY1.out.drewN q5)
      replace HY2 := Lib.hid (HY2.out.drewN q5)
      have HB5 := Lib.hid (below_drewN HB4.out q5)
      have hbx5 := kept_obj HB5.out HM.out.bx
      have HF := Lib.hid (step_below HM.out.bel HB5.out)
      go_wp2
      go_ret
      exact ⟨rfl, by first | exact HF.out | simpa using HF.out⟩
    | true =>
      obtain ⟨h1, h5, hrl, hpl, hls, hrs, hpr⟩ := pair_parts hok
      have hmk : mktOk ls rs = true := by unfold pairOk at hok; rw [Bool.and_eq_true] at hok; exact hok.1
      have hlen : (blocksL rs ls (backOf xs)).length = (blocksL ls rs xs).length := by
        rw [blocksL_yes hok, blocksL_yes (pairOk_turn hok), List.length_map, List.length_map]; exact blocks_turn hok
      have HT := Lib.hid (fun (W : World) (hW : Below w1.heap.size w1 W) => implTurned_any W mL mR ls rs (HM.out.l.below hW) (HM.out.r.below hW))
      have HBK := Lib.hid (fun W (hW : Ints W pv xs) => lawBack_any W pv xs hW (by omega) (by rw [hpl]; exact (rank_parts hpr).2.1))
      have HBB := Lib.hid (fun W L' R' v' (a : IntRows W L' rs) (b : IntRows W R' ls) (c : Ints W v' (backOf xs)) => implBlocks_any W L' R' v' rs ls (backOf xs) a b c)
      obtain ⟨bs, hbs⟩ : ∃ bs, blocksL ls rs xs = bs := ⟨_, rfl⟩
      obtain ⟨cs, hcs⟩ : ∃ cs, blocksL rs ls (backOf xs) = cs := ⟨_, rfl⟩
      rw [hbs, hcs] at hlen
      rw [hok, hbs] at HI HS
      rw [hmk, (turned_yes hmk).1, (turned_yes hmk).2] at HT
      rw [pairOk_turn hok, hcs] at HBB
      have he : ((cs.length : Int) == (bs.length : Int)) = true := by rw [beq_iff_eq]; omega
      clear h1 h5 hrl hpl hls hrs hpr hmk hlen hbs hcs hok
      refine (HI.out _ (Below.refl w1.heap.size w1)).mono ?_
      rintro e w2 ⟨v2, us2, rfl, hb2, ho2⟩
      obtain ⟨A2, c2, rfl⟩ := owns_rows_slice ho2
      have HB2 := Lib.hid (step_below (Below.refl w1.heap.size w1) hb2)
      have hbx2 := kept_obj HB2.out HM.out.bx
      have HY1 := Lib.hid (rows_of_owns ho2)
      clear hb2
      go_wp2_with (refine load_mi rfl _ rfl Bm mL mR rfl (by assumption) ?_)
      refine (HS.out _ HB2.out).mono ?_
      rintro e w3 ⟨v3, us3, rfl, hb3, ho3⟩
      replace HY1 := Lib.hid (HY1.out.below hb3)
      have HB3 := Lib.hid (step_below HB2.out hb3)
      have hbx3 := kept_obj HB3.out HM.out.bx
      have HY2 := Lib.hid (rows_of_owns ho3)
      clear hb3
      clear ho2 ho3
      go_wp2_with (refine load_mi rfl _ rfl Bm mL mR rfl (by assumption) ?_)
      refine (sameRows_same _ _ _ bs HY1.out HY2.out).mono ?_
      rintro e w4 ⟨rfl, q4, rfl⟩
      replace HY1 := Lib.hid (HY1.out.drewN q4)
      replace HY2 := Lib.hid (HY2.out.drewN q4)
      have HB4 := Lib.hid (below_drewN HB3.out q4)
      have hbx4 := kept_obj HB4.out HM.out.bx
      go_wp2_with (refine load_mi rfl _ rfl Bm mL mR rfl (by assumption) ?_)
      refine (HT.out _ HB4.out).mono ?_
      rintro e w5 ⟨A5, n5, c5, A6, n6, c6, rfl, hb5, hoX⟩
      replace HY1 := Lib.hid (HY1.out.below hb5)
      replace HY2 := Lib.hid (HY2.out.below hb5)
      have HB5 := Lib.hid (step_below HB4.out hb5)
      have hbx5 := kept_obj HB5.out HM.out.bx
      have HXL := Lib.hid hoX.left
      have HXR := Lib.hid hoX.right
      clear hb5
      clear hoX
      obtain ⟨Bt, hBt⟩ : ∃ Bt, w5.heap.size = Bt := ⟨_, rfl⟩
      obtain ⟨T5, hT5⟩ : ∃ T5, w5.alloc (.cells (two nilS nilS) 25) = T5 := ⟨_, rfl⟩
      have hbt5 : Below w5.heap.size w5 T5 := by rw [← hT5]; exact (Below.refl _ _).alloc (Nat.le_refl _) _
      have hbu5 : T5.heap[Bt]? = some (.cells (two nilS nilS) 25 (0, 0)) := by rw [← hT5, ← hBt]; exact World.alloc_heap_new _ _
      obtain ⟨wt5, hwt5⟩ : ∃ wt5, T5.setRow Bt (two (.slice A5 n5 c5) (.slice A6 n6 c6)) = wt5 := ⟨_, rfl⟩
      have hbv5 : Below w5.heap.size w5 wt5 := by rw [← hwt5]; exact below_setRow2 hbt5 (by omega) _
      have hBtx : wt5.heap[Bt]? = some (.cells (two (.slice A5 n5 c5) (.slice A6 n6 c6)) 25 (0, 0)) := by rw [← hwt5]; exact heap_setRow2 hbu5
      replace HY1 := Lib.hid (HY1.out.below hbv5)
      replace HY2 := Lib.hid (HY2.out.below hbv5)
      replace HXL := Lib.hid (HXL.out.below hbv5)
      replace HXR := Lib.hid (HXR.out.below hbv5)
      have HBt5 := Lib.hid (step_below HB5.out hbv5)
      have hbxt5 := kept_obj HBt5.out HM.out.bx
      clear hbt5 hbv5
      go_wp2_with (first
        | (refine store_mi rfl _ _ rfl Bt _ _ rfl rfl nilS nilS rfl rfl hbu5 ?_; try rw [hwt5])
        | (refine load_mi rfl _ rfl Bm mL mR rfl (by assumption) ?_))
      clear hT5 hwt5 hBt hbu5
      obtain ⟨t0, t1, _, _⟩ := two_cells (show wt5.drew.heap[Bt]? = some (.cells (two (.slice A5 n5 c5) (.slice A6 n6 c6)) 25 (0, 0)) from hBtx)
      have HKT := Lib.hid (fun (W : World) (hW : Below wt5.drew.heap.size wt5.drew W) => two_cells (kept_obj hW (show wt5.drew.heap[Bt]? = some (.cells (two (.slice A5 n5 c5) (.slice A6 n6 c6)) 25 (0, 0)) from hBtx)))
      have HBD := Lib.hid (show Below w1.heap.size w1 wt5.drew from below_drewN HBt5.out 1)
      go_region_held3 (fun W => W.cell? ⟨Bt, 0, none⟩ = some (.slice A5 n5 c5) ∧ W.cell? ⟨Bt, 1, none⟩ = some (.slice A6 n6 c6))
        (first | exact ⟨t0, t1⟩ | exact ⟨(HKT.out _ hb6).1, (HKT.out _ hb6).2.1⟩ | exact ⟨(HKT.out _ (step_below hb6 hb7)).1, (HKT.out _ (step_below hb6 hb7)).2.1⟩)
        (first
          | (go_at_call 13; refine (HBK.out _ (HP.out.below HBD.out)).mono ?_; rintro e w6 ⟨rfl, hb6, ho6⟩)
          | (go_at_call 9; refine (HBB.out _ _ _ _ (HXL.out.below (below_undrew hb6)) (HXR.out.below (below_undrew hb6)) (ints_of_owns ho6)).mono ?_; rintro e w7 ⟨v7, us7, rfl, hb7, ho7⟩; obtain ⟨A7, c7, rfl⟩ := owns_rows_slice ho7))
      have HB7 := Lib.hid (step_below (step_below HBD.out hb6) hb7)
      have HF := Lib.hid (step_below HM.out.bel HB7.out)
      go_wp2
      go_ret
      exact ⟨rfl, by first | exact HF.out | simpa using HF.out⟩
  · have e1 : ((1048576 : Int) < (L : Int)) = True := by simp; omega
    go_enter Try.func3, Try.ntmps3
    go_wp2
    go_ret
    exact ⟨rfl, Below.refl _ _⟩

end Go.Proofs.Ytjbgjebbfkhidaa
