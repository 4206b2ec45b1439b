/-
  FnLeft: the pairing that the left side asks for is above all.
-/
import Derived.Test.YtahilcnmjnjcaaaDoorMkSt
import Derived.Test.YtahilcnmjnjcaaaDoorLeftMath
import Derived.Test.YtahilcnmjnjcaaaDoorSM
import Derived.Test.YtahilcnmjnjcaaaDoorImplMLeft
import Derived.Test.YtahilcnmjnjcaaaDoorImplAbove
import Derived.Test.YtahilcnmjnjcaaaDoorImplMAll
import Derived.Test.YtahilcnmjnjcaaaDoorCore1
import Derived.Test.YtahilcnmjnjcaaaDoorDrawM0
namespace Go.Proofs.YtahilcnmjnjcaaaDoor
set_option linter.unusedVariables false
set_option linter.unusedSimpArgs false
open Go.RowKit
set_option maxRecDepth 100000 in
set_option maxHeartbeats 4000000 in
theorem FnLeft_final (w : World) (A : Option Addr) (L cap : Nat) (hc : L ≤ cap) (hm : L ≤ maxLen) (hx : Code8 w A L) (hT : Tab w) :
    Calls Tryd.prog 7 #[.slice A L cap] w fun e w' => e = .returned (.bool true) ∧ Below w.heap.size w w' := by
  have HD := Lib.hid (DrawMarketLeft_any w A L cap hc hm hx)
  have HT := Lib.hid hT
  clear hT
  unfold maxLen at hm
  clear hx
  by_cases hbig : L ≤ 1048576
  · have e1 : ((1048576 : Int) < (L : Int)) = False := by simp; omega
    go_enter Tryd.func7, Tryd.ntmps7
    go_wp2_with fail
    refine HD.out.mono ?_
    rintro e w0 ⟨mL, mR, ls, rs, rfl, hM, h4⟩
    have ho1 := rows_one hM.l
    have ho2 := rows_one hM.r
    obtain ⟨Bm, hBm⟩ : ∃ Bm, w0.heap.size = Bm := ⟨_, rfl⟩
    obtain ⟨W2, hW2⟩ : ∃ W2, w0.alloc (.cells (two nilS nilS) 28) = W2 := ⟨_, rfl⟩
    have hb12 : Below w0.heap.size w0 W2 := by rw [← hW2]; exact (Below.refl _ _).alloc (Nat.le_refl _) _
    have hbx2 : W2.heap[Bm]? = some (.cells (two nilS nilS) 28 (0, 0)) := by rw [← hW2, ← hBm]; exact World.alloc_heap_new _ _
    obtain ⟨w1, hW3⟩ : ∃ w1, W2.setRow Bm (two mL mR) = w1 := ⟨_, rfl⟩
    have hb01 : Below w0.heap.size w0 w1 := by rw [← hW3]; exact below_setRow2 hb12 (by omega) _
    have hbx : w1.heap[Bm]? = some (.cells (two mL mR) 28 (0, 0)) := by rw [← hW3]; exact heap_setRow2 hbx2
    have HM : Hid (MkB w w1 Bm mL mR ls rs) := Lib.hid ⟨step_below hM.bel hb01, hM.l.below hb01, hM.r.below hb01, hbx⟩
    have HT1 := Lib.hid (HT.out.later HM.out.bel)
    clear hM hb12 hb01 h4
    go_wp2_with (first
      | (refine store_mi rfl _ _ rfl Bm mL mR rfl rfl nilS nilS ho1 ho2 hbx2 ?_; try rw [hW3])
      | (refine load_mi rfl _ rfl Bm mL mR rfl hbx ?_))
    clear hW2 hW3 hBm hbx2 ho1 ho2
    have HI := Lib.hid (fun (W : World) (hW : Below w1.heap.size w1 W) => implMLeft_any W mL mR ls rs (HM.out.l.below hW) (HM.out.r.below hW))
    have HS := Lib.hid (fun (W : World) (hW : Below w1.heap.size w1 W) => specMLeft_any W mL mR ls rs (HM.out.l.below hW) (HM.out.r.below hW))
    have HA := Lib.hid (fun (W : World) (hW : Below w1.heap.size w1 W) => implMAll_any W mL mR ls rs (HM.out.l.below hW) (HM.out.r.below hW) (HT1.out.later hW))
    cases hok : mktOk ls rs with
    | false =>
      have HE := Lib.hid (leftL_no hok)
      rw [hok] at HI HS
      clear hok HA
      refine (HI.out _ (Below.refl w1.heap.size w1)).mono ?_
      rintro e w2 ⟨v2, rfl, hb2, ho2⟩
      have HB2 := Lib.hid (step_below (Below.refl w1.heap.size w1) hb2)
      have hbx2 := kept_obj HB2.out HM.out.bx
      have HY1 := Lib.hid (show Ints _ v2 [] from by rw [HE.out] at ho2; exact ints_of_owns ho2)
      clear hb2
      go_wp2_with (refine load_mi rfl _ rfl Bm mL mR rfl (by assumption) ?_)
      refine (HS.out _ HB2.out).mono ?_
      rintro e w3 ⟨v3, rfl, hb3, ho3⟩
      replace HY1 := Lib.hid (HY1.out.below hb3)
      have HB3 := Lib.hid (step_below HB2.out hb3)
      have hbx3 := kept_obj HB3.out HM.out.bx
      have HY2 := Lib.hid (show Ints _ v3 [] from by rw [HE.out] at ho3; exact ints_of_owns ho3)
      clear hb3
      clear ho2 ho3
      go_wp2_with (refine load_mi rfl _ rfl Bm mL mR rfl (by assumption) ?_)
      refine (sameInts_same _ _ _ [] HY1.out HY2.out).mono ?_
      rintro e w4 ⟨rfl, q4, rfl⟩
      replace HY1 := Lib.hid (HY1.out.drewN q4)
      replace HY2 := Lib.hid (HY2.out.drewN q4)
      have HB4 := Lib.hid (below_drewN HB3.out q4)
      have hbx4 := kept_obj HB4.out HM.out.bx
      go_wp2_with (refine load_mi rfl _ rfl Bm mL mR rfl (by assumption) ?_)
      refine (sameInts_same _ _ _ [] HY1.out HY2.out).mono ?_
      rintro e w5 ⟨rfl, q5, rfl⟩
      replace HY1 := Lib.hid (HY1.out.drewN q5)
      replace HY2 := Lib.hid (HY2.out.drewN q5)
      have HB5 := Lib.hid (below_drewN HB4.out q5)
      have hbx5 := kept_obj HB5.out HM.out.bx
      have HF := Lib.hid (step_below HM.out.bel HB5.out)
      go_wp2
      go_ret
      exact ⟨rfl, by first | exact HF.out | simpa using HF.out⟩
    | true =>
      have hlen := allL_some hok
      have habv : ∀ k (h : k < (allL ls rs).length), aboveOk ls rs (leftL ls rs) (allL ls rs)[k] = true := fun k h => left_above ((mem_allL hok).1 (List.getElem_mem h))
      have hal5 := allL_len5 ls rs
      obtain ⟨al, hal⟩ : ∃ al, allL ls rs = al := ⟨_, rfl⟩
      rw [hal] at hal5
      obtain ⟨xs, hxs⟩ : ∃ xs, leftL ls rs = xs := ⟨_, rfl⟩
      have HABV : Hid (∀ k (h : k < al.length), aboveOk ls rs xs al[k] = true) := Lib.hid (by subst hal hxs; exact habv)
      rw [hal] at hlen HA
      rw [hxs] at HI HS
      rw [hok] at HI HS HA
      have he : 0 < al.length := hlen
      clear hok hal hlen hxs habv
      refine (HI.out _ (Below.refl w1.heap.size w1)).mono ?_
      rintro e w2 ⟨v2, rfl, hb2, ho2⟩
      have HB2 := Lib.hid (step_below (Below.refl w1.heap.size w1) hb2)
      have hbx2 := kept_obj HB2.out HM.out.bx
      have HY1 := Lib.hid (ints_of_owns ho2)
      clear hb2
      go_wp2_with (refine load_mi rfl _ rfl Bm mL mR rfl (by assumption) ?_)
      refine (HS.out _ HB2.out).mono ?_
      rintro e w3 ⟨v3, rfl, hb3, ho3⟩
      replace HY1 := Lib.hid (HY1.out.below hb3)
      have HB3 := Lib.hid (step_below HB2.out hb3)
      have hbx3 := kept_obj HB3.out HM.out.bx
      have HY2 := Lib.hid (ints_of_owns ho3)
      clear hb3
      clear ho2 ho3
      go_wp2_with (refine load_mi rfl _ rfl Bm mL mR rfl (by assumption) ?_)
      refine (sameInts_same _ _ _ xs HY1.out HY2.out).mono ?_
      rintro e w4 ⟨rfl, q4, rfl⟩
      replace HY1 := Lib.hid (HY1.out.drewN q4)
      replace HY2 := Lib.hid (HY2.out.drewN q4)
      have HB4 := Lib.hid (below_drewN HB3.out q4)
      have hbx4 := kept_obj HB4.out HM.out.bx
      go_wp2_with (refine load_mi rfl _ rfl Bm mL mR rfl (by assumption) ?_)
      refine (HA.out _ HB4.out).mono ?_
      rintro e w5 ⟨v5, us5, rfl, hb5, ho5⟩
      obtain ⟨A5, c5, rfl⟩ := owns_rows_slice ho5
      replace HY1 := Lib.hid (HY1.out.below hb5)
      replace HY2 := Lib.hid (HY2.out.below hb5)
      have HB5 := Lib.hid (step_below HB4.out hb5)
      have hbx5 := kept_obj HB5.out HM.out.bx
      have HX5 := Lib.hid (rows_of_owns ho5)
      clear hb5
      clear ho5
      go_wp2
      go_loopw [10] (fun iv wr => ∃ k : Nat, k ≤ al.length ∧ iv = .int .i64 k ∧ Below w5.heap.size w5 wr) (fun iv _ => al.length - (intOf iv).toNat)
      case atStart => exact ⟨0, Nat.zero_le _, rfl, Below.refl _ _⟩
      case round =>
        obtain ⟨k, hk, rfl, hbk⟩ := hrel
        by_cases hlt : k < al.length
        · obtain ⟨A', cap', e', hm', hc'⟩ := (HX5.out.below hbk).at
          obtain ⟨bx, off, u, hA, hcell, hu⟩ := hc' k hlt
          obtain ⟨rfl, -⟩ : A5 = A' ∧ c5 = cap' := by simpa using e'
          subst hA
          have HBk := Lib.hid hbk
          have HBD := Lib.hid (show Below w1.heap.size w1 wr.drew from below_drewN (step_below HB5.out hbk) 1)
          have hmb : wr.drew.heap[Bm]? = some (.cells (two mL mR) 28 (0, 0)) := kept_obj HBD.out HM.out.bx
          obtain ⟨m0, m1, _, _⟩ := two_cells hmb
          have mx : wr.drew.cell? ⟨bx, off + k, none⟩ = some u := hcell
          have HKT := Lib.hid (fun (W : World) (hW : Below wr.drew.heap.size wr.drew W) => And.intro (two_cells (kept_obj hW hmb)) ((hW.cell (World.block_lt_of_cell? _ _ mx)).trans mx))
          have hab := implAbove_any wr.drew mL mR v2 u ls rs xs al[k] (HM.out.l.below HBD.out) (HM.out.r.below HBD.out) ((HY1.out.below hbk).below (below_drewN (Below.refl _ _) 1)) (hu.below (below_drewN (Below.refl _ _) 1))
          rw [HABV.out k hlt] at hab
          have HAB := Lib.hid hab
          have hki : (k : Int) < (al.length : Int) := by omega
          have hk0 : (0 : Int) ≤ (k : Int) := by omega
          clear hc' e' hm' hcell hu hbk hab hmb
          go_wp2
          go_region_held3 (fun W => W.cell? ⟨Bm, 0, none⟩ = some mL ∧ W.cell? ⟨Bm, 1, none⟩ = some mR ∧ W.cell? ⟨bx, off + k, none⟩ = some u)
            (first | exact ⟨m0, m1, mx⟩ | exact ⟨(HKT.out _ hb9).1.1, (HKT.out _ hb9).1.2.1, (HKT.out _ hb9).2⟩)
            (first | (go_at_call 34; refine HAB.out.mono ?_; rintro e w9 ⟨rfl, hb9⟩))
          have HN9 := Lib.hid (step_below (below_drewN HBk.out 1) hb9)
          clear m0 m1 mx hb9
          go_wp2
          go_roundw
          case rel => exact ⟨k + 1, by omega, by go_num, HN9.out⟩
          case measure => simp [intOf]; omega
        · obtain rfl : k = al.length := by omega
          have HF := Lib.hid (step_below HM.out.bel (step_below HB5.out hbk))
          clear hbk
          go_wp2
          go_ret
          exact ⟨rfl, HF.out⟩
  · have e1 : ((1048576 : Int) < (L : Int)) = True := by simp; omega
    go_enter Tryd.func7, Tryd.ntmps7
    go_wp2
    go_ret
    exact ⟨rfl, Below.refl _ _⟩

end Go.Proofs.YtahilcnmjnjcaaaDoor
