/-
  FnMarketTurned: turned twice a market is as it was, and it has as many stable pairings.
-/
import Derived.Test.YtahilcnmjnjcaaaDoorMkSt
import Derived.Test.YtahilcnmjnjcaaaDoorLeftMath
import Derived.Test.YtahilcnmjnjcaaaDoorImplTurned
import Derived.Test.YtahilcnmjnjcaaaDoorSpecTurned
import Derived.Test.YtahilcnmjnjcaaaDoorImplMAll
import Derived.Test.YtahilcnmjnjcaaaDoorSameMkt
import Derived.Test.YtahilcnmjnjcaaaDoorDrawM0
namespace Go.Proofs.YtahilcnmjnjcaaaDoor
set_option linter.unusedVariables false
set_option linter.unusedSimpArgs false
open Go.RowKit
set_option maxRecDepth 100000 in
set_option maxHeartbeats 4000000 in
theorem FnMarketTurned_final (w : World) (A : Option Addr) (L cap : Nat) (hc : L ≤ cap) (hm : L ≤ maxLen) (hx : Code8 w A L) (hT : Tab w) :
    Calls Tryd.prog 6 #[.slice A L cap] w fun e w' => e = .returned (.bool true) ∧ Below w.heap.size w w' := by
  have HD := Lib.hid (DrawMarketTurned_any w A L cap hc hm hx)
  have HT := Lib.hid hT
  clear hT
  unfold maxLen at hm
  clear hx
  by_cases hbig : L ≤ 1048576
  · have e1 : ((1048576 : Int) < (L : Int)) = False := by simp; omega
    go_enter Tryd.func6, Tryd.ntmps6
    go_wp2_with fail
    refine HD.out.mono ?_
    rintro e w0 ⟨mL, mR, ls, rs, rfl, hM, h4⟩
    have ho1 := rows_one hM.l
    have ho2 := rows_one hM.r
    obtain ⟨Bm, hBm⟩ : ∃ Bm, w0.heap.size = Bm := ⟨_, rfl⟩
    obtain ⟨W2, hW2⟩ : ∃ W2, w0.alloc (.cells (two nilS nilS) 28) = W2 := ⟨_, rfl⟩
    have hb12 : Below w0.heap.size w0 W2 := by rw [← hW2]; exact (Below.refl _ _).alloc (Nat.le_refl _) _
    have hbx2 : W2.heap[Bm]? = some (.cells (two nilS nilS) 28 (0, 0)) := by rw [← hW2, ← hBm]; exact World.alloc_heap_new _ _
    obtain ⟨w1, hW3⟩ : ∃ w1, W2.setRow Bm (two mL mR) = w1 := ⟨_, rfl⟩
    have hb01 : Below w0.heap.size w0 w1 := by rw [← hW3]; exact below_setRow2 hb12 (by omega) _
    have hbx : w1.heap[Bm]? = some (.cells (two mL mR) 28 (0, 0)) := by rw [← hW3]; exact heap_setRow2 hbx2
    have HM : Hid (MkB w w1 Bm mL mR ls rs) := Lib.hid ⟨step_below hM.bel hb01, hM.l.below hb01, hM.r.below hb01, hbx⟩
    have HT1 := Lib.hid (HT.out.later HM.out.bel)
    clear hM hb12 hb01 h4
    go_wp2_with (first
      | (refine store_mi rfl _ _ rfl Bm mL mR rfl rfl nilS nilS ho1 ho2 hbx2 ?_; try rw [hW3])
      | (refine load_mi rfl _ rfl Bm mL mR rfl hbx ?_))
    clear hW2 hW3 hBm hbx2 ho1 ho2
    have HI := Lib.hid (fun (W : World) (hW : Below w1.heap.size w1 W) => implTurned_any W mL mR ls rs (HM.out.l.below hW) (HM.out.r.below hW))
    have HS := Lib.hid (fun (W : World) (hW : Below w1.heap.size w1 W) => specTurned_any W mL mR ls rs (HM.out.l.below hW) (HM.out.r.below hW))
    have HA := Lib.hid (fun (W : World) (hW : Below w1.heap.size w1 W) => implMAll_any W mL mR ls rs (HM.out.l.below hW) (HM.out.r.below hW) (HT1.out.later hW))
    cases hok : mktOk ls rs with
    | false =>
      have hE1 : turnedL ls rs = [] := by unfold turnedL; rw [hok]; rfl
      have hE2 : turnedR ls rs = [] := by unfold turnedR; rw [hok]; rfl
      rw [hok, hE1, hE2] at HI HS
      clear hok HA hE1 hE2
      refine (HI.out _ (Below.refl w1.heap.size w1)).mono ?_
      rintro e w2 ⟨A2, n2, c2, A3, n3, c3, rfl, hb2, hoX⟩
      have HB2 := Lib.hid (step_below (Below.refl w1.heap.size w1) hb2)
      have hbx2 := kept_obj HB2.out HM.out.bx
      have HXL := Lib.hid hoX.left
      have HXR := Lib.hid hoX.right
      clear hb2
      clear hoX
      obtain ⟨Bo, hBo⟩ : ∃ Bo, w2.heap.size = Bo := ⟨_, rfl⟩
      obtain ⟨T2, hT2⟩ : ∃ T2, w2.alloc (.cells (two nilS nilS) 28) = T2 := ⟨_, rfl⟩
      have hbt2 : Below w2.heap.size w2 T2 := by rw [← hT2]; exact (Below.refl _ _).alloc (Nat.le_refl _) _
      have hbu2 : T2.heap[Bo]? = some (.cells (two nilS nilS) 28 (0, 0)) := by rw [← hT2, ← hBo]; exact World.alloc_heap_new _ _
      obtain ⟨wt2, hwt2⟩ : ∃ wt2, T2.setRow Bo (two (.slice A2 n2 c2) (.slice A3 n3 c3)) = wt2 := ⟨_, rfl⟩
      have hbv2 : Below w2.heap.size w2 wt2 := by rw [← hwt2]; exact below_setRow2 hbt2 (by omega) _
      have hBox : wt2.heap[Bo]? = some (.cells (two (.slice A2 n2 c2) (.slice A3 n3 c3)) 28 (0, 0)) := by rw [← hwt2]; exact heap_setRow2 hbu2
      replace HXL := Lib.hid (HXL.out.below hbv2)
      replace HXR := Lib.hid (HXR.out.below hbv2)
      have HBt2 := Lib.hid (step_below HB2.out hbv2)
      have hbxt2 := kept_obj HBt2.out HM.out.bx
      clear hbt2 hbv2
      go_wp2_with (first
        | (refine store_mi rfl _ _ rfl Bo _ _ rfl rfl nilS nilS rfl rfl hbu2 ?_; try rw [hwt2])
        | (refine load_mi rfl _ rfl Bo _ _ rfl hBox ?_)
        | (refine load_mi rfl _ rfl Bm mL mR rfl (by assumption) ?_))
      clear hT2 hwt2 hBo hbu2
      refine (HS.out _ HBt2.out).mono ?_
      rintro e w3 ⟨A4, n4, c4, A5, n5, c5, rfl, hb3, hoY⟩
      have hBo3 := kept_obj hb3 hBox
      replace HXL := Lib.hid (HXL.out.below hb3)
      replace HXR := Lib.hid (HXR.out.below hb3)
      have HB3 := Lib.hid (step_below HBt2.out hb3)
      have hbx3 := kept_obj HB3.out HM.out.bx
      have HYL := Lib.hid hoY.left
      have HYR := Lib.hid hoY.right
      clear hb3
      clear hoY
      obtain ⟨Bw, hBw⟩ : ∃ Bw, w3.heap.size = Bw := ⟨_, rfl⟩
      obtain ⟨T3, hT3⟩ : ∃ T3, w3.alloc (.cells (two nilS nilS) 28) = T3 := ⟨_, rfl⟩
      have hbt3 : Below w3.heap.size w3 T3 := by rw [← hT3]; exact (Below.refl _ _).alloc (Nat.le_refl _) _
      have hbu3 : T3.heap[Bw]? = some (.cells (two nilS nilS) 28 (0, 0)) := by rw [← hT3, ← hBw]; exact World.alloc_heap_new _ _
      obtain ⟨wt3, hwt3⟩ : ∃ wt3, T3.setRow Bw (two (.slice A4 n4 c4) (.slice A5 n5 c5)) = wt3 := ⟨_, rfl⟩
      have hbv3 : Below w3.heap.size w3 wt3 := by rw [← hwt3]; exact below_setRow2 hbt3 (by omega) _
      have hBwx : wt3.heap[Bw]? = some (.cells (two (.slice A4 n4 c4) (.slice A5 n5 c5)) 28 (0, 0)) := by rw [← hwt3]; exact heap_setRow2 hbu3
      replace HXL := Lib.hid (HXL.out.below hbv3)
      replace HXR := Lib.hid (HXR.out.below hbv3)
      replace HYL := Lib.hid (HYL.out.below hbv3)
      replace HYR := Lib.hid (HYR.out.below hbv3)
      have HBt3 := Lib.hid (step_below HB3.out hbv3)
      have hbxt3 := kept_obj HBt3.out HM.out.bx
      have hBo4 := kept_obj hbv3 hBo3
      obtain ⟨a0, a1, _, _⟩ := two_cells hBo4
      obtain ⟨b0, b1, _, _⟩ := two_cells hBwx
      clear hbt3 hbv3
      go_wp2_with (first
        | (refine store_mi rfl _ _ rfl Bw _ _ rfl rfl nilS nilS rfl rfl hbu3 ?_; try rw [hwt3])
        | (refine load_mi rfl _ rfl Bw _ _ rfl hBwx ?_)
        | (refine load_mi rfl _ rfl Bm mL mR rfl (by assumption) ?_))
      clear hT3 hwt3 hBw hbu3
      refine (sameMkt_same _ (.slice A2 n2 c2) (.slice A3 n3 c3) (.slice A4 n4 c4) (.slice A5 n5 c5) [] [] HXL.out HXR.out HYL.out HYR.out).mono ?_
      rintro e w4 ⟨rfl, hb4⟩
      have hBo5 := kept_obj hb4 hBo4
      have hBw5 := kept_obj hb4 hBwx
      replace HXL := Lib.hid (HXL.out.below hb4)
      replace HXR := Lib.hid (HXR.out.below hb4)
      replace HYL := Lib.hid (HYL.out.below hb4)
      replace HYR := Lib.hid (HYR.out.below hb4)
      have HB4 := Lib.hid (step_below HBt3.out hb4)
      have hbx4 := kept_obj HB4.out HM.out.bx
      clear hb4
      clear a0 a1 b0 b1
      obtain ⟨a0, a1, _, _⟩ := two_cells hBo5
      obtain ⟨b0, b1, _, _⟩ := two_cells hBw5
      go_wp2_with fail
      refine (sameMkt_same _ (.slice A2 n2 c2) (.slice A3 n3 c3) (.slice A4 n4 c4) (.slice A5 n5 c5) [] [] HXL.out HXR.out HYL.out HYR.out).mono ?_
      rintro e w5 ⟨rfl, hb5⟩
      replace HXL := Lib.hid (HXL.out.below hb5)
      replace HXR := Lib.hid (HXR.out.below hb5)
      replace HYL := Lib.hid (HYL.out.below hb5)
      replace HYR := Lib.hid (HYR.out.below hb5)
      have HB5 := Lib.hid (step_below HB4.out hb5)
      have hbx5 := kept_obj HB5.out HM.out.bx
      clear hb5
      have HF := Lib.hid (step_below HM.out.bel HB5.out)
      go_wp2
      go_ret
      exact ⟨rfl, by first | exact HF.out | simpa using HF.out⟩
    | true =>
      have hat := all_turn hok
      obtain ⟨al, hal⟩ : ∃ al, allL ls rs = al := ⟨_, rfl⟩
      obtain ⟨bl, hbl⟩ : ∃ bl, allL rs ls = bl := ⟨_, rfl⟩
      have HT2 := Lib.hid (fun (W : World) (L' R' : Value) (a : IntRows W L' rs) (b : IntRows W R' ls) => implTurned_any W L' R' rs ls a b)
      have HA2 := Lib.hid (fun (W : World) (L' R' : Value) (hW : Below w1.heap.size w1 W) (a : IntRows W L' rs) (b : IntRows W R' ls) => implMAll_any W L' R' rs ls a b (HT1.out.later hW))
      rw [hok, (turned_yes hok).1, (turned_yes hok).2] at HI HS
      rw [mktOk_turn hok, (turned_yes (mktOk_turn hok)).1, (turned_yes (mktOk_turn hok)).2] at HT2
      rw [mktOk_turn hok, hbl] at HA2
      rw [hok, hal] at HA
      rw [hal, hbl] at hat
      have he : ((al.length : Int) == (bl.length : Int)) = true := by rw [beq_iff_eq]; omega
      clear hok hal hbl hat
      refine (HI.out _ (Below.refl w1.heap.size w1)).mono ?_
      rintro e w2 ⟨A2, n2, c2, A3, n3, c3, rfl, hb2, hoX⟩
      have HB2 := Lib.hid (step_below (Below.refl w1.heap.size w1) hb2)
      have hbx2 := kept_obj HB2.out HM.out.bx
      have HXL := Lib.hid hoX.left
      have HXR := Lib.hid hoX.right
      clear hb2
      clear hoX
      obtain ⟨Bo, hBo⟩ : ∃ Bo, w2.heap.size = Bo := ⟨_, rfl⟩
      obtain ⟨T2, hT2⟩ : ∃ T2, w2.alloc (.cells (two nilS nilS) 28) = T2 := ⟨_, rfl⟩
      have hbt2 : Below w2.heap.size w2 T2 := by rw [← hT2]; exact (Below.refl _ _).alloc (Nat.le_refl _) _
      have hbu2 : T2.heap[Bo]? = some (.cells (two nilS nilS) 28 (0, 0)) := by rw [← hT2, ← hBo]; exact World.alloc_heap_new _ _
      obtain ⟨wt2, hwt2⟩ : ∃ wt2, T2.setRow Bo (two (.slice A2 n2 c2) (.slice A3 n3 c3)) = wt2 := ⟨_, rfl⟩
      have hbv2 : Below w2.heap.size w2 wt2 := by rw [← hwt2]; exact below_setRow2 hbt2 (by omega) _
      have hBox : wt2.heap[Bo]? = some (.cells (two (.slice A2 n2 c2) (.slice A3 n3 c3)) 28 (0, 0)) := by rw [← hwt2]; exact heap_setRow2 hbu2
      replace HXL := Lib.hid (HXL.out.below hbv2)
      replace HXR := Lib.hid (HXR.out.below hbv2)
      have HBt2 := Lib.hid (step_below HB2.out hbv2)
      have hbxt2 := kept_obj HBt2.out HM.out.bx
      clear hbt2 hbv2
      go_wp2_with (first
        | (refine store_mi rfl _ _ rfl Bo _ _ rfl rfl nilS nilS rfl rfl hbu2 ?_; try rw [hwt2])
        | (refine load_mi rfl _ rfl Bo _ _ rfl hBox ?_)
        | (refine load_mi rfl _ rfl Bm mL mR rfl (by assumption) ?_))
      clear hT2 hwt2 hBo hbu2
      refine (HS.out _ HBt2.out).mono ?_
      rintro e w3 ⟨A4, n4, c4, A5, n5, c5, rfl, hb3, hoY⟩
      have hBo3 := kept_obj hb3 hBox
      replace HXL := Lib.hid (HXL.out.below hb3)
      replace HXR := Lib.hid (HXR.out.below hb3)
      have HB3 := Lib.hid (step_below HBt2.out hb3)
      have hbx3 := kept_obj HB3.out HM.out.bx
      have HYL := Lib.hid hoY.left
      have HYR := Lib.hid hoY.right
      clear hb3
      clear hoY
      obtain ⟨Bw, hBw⟩ : ∃ Bw, w3.heap.size = Bw := ⟨_, rfl⟩
      obtain ⟨T3, hT3⟩ : ∃ T3, w3.alloc (.cells (two nilS nilS) 28) = T3 := ⟨_, rfl⟩
      have hbt3 : Below w3.heap.size w3 T3 := by rw [← hT3]; exact (Below.refl _ _).alloc (Nat.le_refl _) _
      have hbu3 : T3.heap[Bw]? = some (.cells (two nilS nilS) 28 (0, 0)) := by rw [← hT3, ← hBw]; exact World.alloc_heap_new _ _
      obtain ⟨wt3, hwt3⟩ : ∃ wt3, T3.setRow Bw (two (.slice A4 n4 c4) (.slice A5 n5 c5)) = wt3 := ⟨_, rfl⟩
      have hbv3 : Below w3.heap.size w3 wt3 := by rw [← hwt3]; exact below_setRow2 hbt3 (by omega) _
      have hBwx : wt3.heap[Bw]? = some (.cells (two (.slice A4 n4 c4) (.slice A5 n5 c5)) 28 (0, 0)) := by rw [← hwt3]; exact heap_setRow2 hbu3
      replace HXL := Lib.hid (HXL.out.below hbv3)
      replace HXR := Lib.hid (HXR.out.below hbv3)
      replace HYL := Lib.hid (HYL.out.below hbv3)
      replace HYR := Lib.hid (HYR.out.below hbv3)
      have HBt3 := Lib.hid (step_below HB3.out hbv3)
      have hbxt3 := kept_obj HBt3.out HM.out.bx
      have hBo4 := kept_obj hbv3 hBo3
      obtain ⟨a0, a1, _, _⟩ := two_cells hBo4
      obtain ⟨b0, b1, _, _⟩ := two_cells hBwx
      clear hbt3 hbv3
      go_wp2_with (first
        | (refine store_mi rfl _ _ rfl Bw _ _ rfl rfl nilS nilS rfl rfl hbu3 ?_; try rw [hwt3])
        | (refine load_mi rfl _ rfl Bw _ _ rfl hBwx ?_)
        | (refine load_mi rfl _ rfl Bm mL mR rfl (by assumption) ?_))
      clear hT3 hwt3 hBw hbu3
      refine (sameMkt_same _ (.slice A2 n2 c2) (.slice A3 n3 c3) (.slice A4 n4 c4) (.slice A5 n5 c5) rs ls HXL.out HXR.out HYL.out HYR.out).mono ?_
      rintro e w4 ⟨rfl, hb4⟩
      have hBo5 := kept_obj hb4 hBo4
      have hBw5 := kept_obj hb4 hBwx
      replace HXL := Lib.hid (HXL.out.below hb4)
      replace HXR := Lib.hid (HXR.out.below hb4)
      replace HYL := Lib.hid (HYL.out.below hb4)
      replace HYR := Lib.hid (HYR.out.below hb4)
      have HB4 := Lib.hid (step_below HBt3.out hb4)
      have hbx4 := kept_obj HB4.out HM.out.bx
      clear hb4
      clear a0 a1 b0 b1
      go_wp2_with (refine load_mi rfl _ rfl Bo _ _ rfl hBo5 ?_)
      refine (HT2.out _ _ _ HXL.out HXR.out).mono ?_
      rintro e w5 ⟨A6, n6, c6, A7, n7, c7, rfl, hb5, hoZ⟩
      have hBo6 := kept_obj hb5 hBo5
      replace HXL := Lib.hid (HXL.out.below hb5)
      replace HXR := Lib.hid (HXR.out.below hb5)
      replace HYL := Lib.hid (HYL.out.below hb5)
      replace HYR := Lib.hid (HYR.out.below hb5)
      have HB5 := Lib.hid (step_below HB4.out hb5)
      have hbx5 := kept_obj HB5.out HM.out.bx
      have HZL := Lib.hid hoZ.left
      have HZR := Lib.hid hoZ.right
      clear hb5
      clear hoZ
      obtain ⟨Bx, hBx⟩ : ∃ Bx, w5.heap.size = Bx := ⟨_, rfl⟩
      obtain ⟨T5, hT5⟩ : ∃ T5, w5.alloc (.cells (two nilS nilS) 28) = T5 := ⟨_, rfl⟩
      have hbt5 : Below w5.heap.size w5 T5 := by rw [← hT5]; exact (Below.refl _ _).alloc (Nat.le_refl _) _
      have hbu5 : T5.heap[Bx]? = some (.cells (two nilS nilS) 28 (0, 0)) := by rw [← hT5, ← hBx]; exact World.alloc_heap_new _ _
      obtain ⟨wt5, hwt5⟩ : ∃ wt5, T5.setRow Bx (two (.slice A6 n6 c6) (.slice A7 n7 c7)) = wt5 := ⟨_, rfl⟩
      have hbv5 : Below w5.heap.size w5 wt5 := by rw [← hwt5]; exact below_setRow2 hbt5 (by omega) _
      have hBxx : wt5.heap[Bx]? = some (.cells (two (.slice A6 n6 c6) (.slice A7 n7 c7)) 28 (0, 0)) := by rw [← hwt5]; exact heap_setRow2 hbu5
      replace HXL := Lib.hid (HXL.out.below hbv5)
      replace HXR := Lib.hid (HXR.out.below hbv5)
      replace HYL := Lib.hid (HYL.out.below hbv5)
      replace HYR := Lib.hid (HYR.out.below hbv5)
      replace HZL := Lib.hid (HZL.out.below hbv5)
      replace HZR := Lib.hid (HZR.out.below hbv5)
      have HBt5 := Lib.hid (step_below HB5.out hbv5)
      have hbxt5 := kept_obj HBt5.out HM.out.bx
      have hBo7 := kept_obj hbv5 hBo6
      clear hbt5 hbv5
      go_wp2_with (first
        | (refine store_mi rfl _ _ rfl Bx _ _ rfl rfl nilS nilS rfl rfl hbu5 ?_; try rw [hwt5])
        | (refine load_mi rfl _ rfl Bx _ _ rfl hBxx ?_)
        | (refine load_mi rfl _ rfl Bm mL mR rfl (by assumption) ?_))
      clear hT5 hwt5 hBx hbu5
      refine (HA.out _ HBt5.out).mono ?_
      rintro e w6 ⟨v6, us6, rfl, hb6, ho6⟩
      obtain ⟨A8, c8, rfl⟩ := owns_rows_slice ho6
      have hBo8 := kept_obj hb6 hBo7
      have hBx8 := kept_obj hb6 hBxx
      replace HXL := Lib.hid (HXL.out.below hb6)
      replace HXR := Lib.hid (HXR.out.below hb6)
      replace HYL := Lib.hid (HYL.out.below hb6)
      replace HYR := Lib.hid (HYR.out.below hb6)
      replace HZL := Lib.hid (HZL.out.below hb6)
      replace HZR := Lib.hid (HZR.out.below hb6)
      have HB6 := Lib.hid (step_below HBt5.out hb6)
      have hbx6 := kept_obj HB6.out HM.out.bx
      clear hb6
      clear ho6
      go_wp2_with (refine load_mi rfl _ rfl Bo _ _ rfl hBo8 ?_)
      refine (HA2.out _ _ _ HB6.out HXL.out HXR.out).mono ?_
      rintro e w7 ⟨v7, us7, rfl, hb7, ho7⟩
      obtain ⟨A9, c9, rfl⟩ := owns_rows_slice ho7
      have hBx9 := kept_obj hb7 hBx8
      replace HXL := Lib.hid (HXL.out.below hb7)
      replace HXR := Lib.hid (HXR.out.below hb7)
      replace HYL := Lib.hid (HYL.out.below hb7)
      replace HYR := Lib.hid (HYR.out.below hb7)
      replace HZL := Lib.hid (HZL.out.below hb7)
      replace HZR := Lib.hid (HZR.out.below hb7)
      have HB7 := Lib.hid (step_below HB6.out hb7)
      have hbx7 := kept_obj HB7.out HM.out.bx
      clear hb7
      clear ho7
      obtain ⟨a0, a1, _, _⟩ := two_cells hBx9
      obtain ⟨m0, m1, _, _⟩ := two_cells (kept_obj HB7.out HM.out.bx)
      go_wp2_with fail
      refine (sameMkt_same _ (.slice A6 n6 c6) (.slice A7 n7 c7) mL mR ls rs HZL.out HZR.out (HM.out.l.below HB7.out) (HM.out.r.below HB7.out)).mono ?_
      rintro e w8 ⟨rfl, hb8⟩
      replace HXL := Lib.hid (HXL.out.below hb8)
      replace HXR := Lib.hid (HXR.out.below hb8)
      replace HYL := Lib.hid (HYL.out.below hb8)
      replace HYR := Lib.hid (HYR.out.below hb8)
      replace HZL := Lib.hid (HZL.out.below hb8)
      replace HZR := Lib.hid (HZR.out.below hb8)
      have HB8 := Lib.hid (step_below HB7.out hb8)
      have hbx8 := kept_obj HB8.out HM.out.bx
      clear hb8
      have HF := Lib.hid (step_below HM.out.bel HB8.out)
      go_wp2
      go_ret
      exact ⟨rfl, by first | exact HF.out | simpa using HF.out⟩
  · have e1 : ((1048576 : Int) < (L : Int)) = True := by simp; omega
    go_enter Tryd.func6, Tryd.ntmps6
    go_wp2
    go_ret
    exact ⟨rfl, Below.refl _ _⟩

end Go.Proofs.YtahilcnmjnjcaaaDoor
