/-
  FnPairing: a pairing is among the stable ones if none block it.
-/
import Derived.Test.YtahilcnmjnjcaaaDoorMkSt
import Derived.Test.YtahilcnmjnjcaaaDoorReadPair
import Derived.Test.YtahilcnmjnjcaaaDoorImplBlocks
import Derived.Test.YtahilcnmjnjcaaaDoorImplMAll
import Derived.Test.YtahilcnmjnjcaaaDoorCore1
import Derived.Test.YtahilcnmjnjcaaaDoorDrawM1
namespace Go.Proofs.YtahilcnmjnjcaaaDoor
set_option linter.unusedVariables false
set_option linter.unusedSimpArgs false
open Go.RowKit
set_option maxRecDepth 100000 in
set_option maxHeartbeats 4000000 in
theorem FnPairing_final (w : World) (A : Option Addr) (L cap : Nat) (hc : L ≤ cap) (hm : L ≤ maxLen) (hx : Code8 w A L) (hT : Tab w) :
    Calls Tryd.prog 5 #[.slice A L cap] w fun e w' => e = .returned (.bool true) ∧ Below w.heap.size w w' := by
  have HD := Lib.hid (DrawMarketPairing_any w A L cap hc hm hx)
  have HT := Lib.hid hT
  clear hT
  unfold maxLen at hm
  clear hx
  by_cases hbig : L ≤ 1048576
  · have e1 : ((1048576 : Int) < (L : Int)) = False := by simp; omega
    go_enter Tryd.func5, Tryd.ntmps5
    go_wp2_with fail
    refine HD.out.mono ?_
    rintro e w0 ⟨mL, mR, ls, rs, pv, xs, rfl, hM, h4, hP⟩
    have ho1 := rows_one hM.l
    have ho2 := rows_one hM.r
    obtain ⟨Bm, hBm⟩ : ∃ Bm, w0.heap.size = Bm := ⟨_, rfl⟩
    obtain ⟨W2, hW2⟩ : ∃ W2, w0.alloc (.cells (two nilS nilS) 28) = W2 := ⟨_, rfl⟩
    have hb12 : Below w0.heap.size w0 W2 := by rw [← hW2]; exact (Below.refl _ _).alloc (Nat.le_refl _) _
    have hbx2 : W2.heap[Bm]? = some (.cells (two nilS nilS) 28 (0, 0)) := by rw [← hW2, ← hBm]; exact World.alloc_heap_new _ _
    obtain ⟨w1, hW3⟩ : ∃ w1, W2.setRow Bm (two mL mR) = w1 := ⟨_, rfl⟩
    have hb01 : Below w0.heap.size w0 w1 := by rw [← hW3]; exact below_setRow2 hb12 (by omega) _
    have hbx : w1.heap[Bm]? = some (.cells (two mL mR) 28 (0, 0)) := by rw [← hW3]; exact heap_setRow2 hbx2
    have HM : Hid (MkB w w1 Bm mL mR ls rs) := Lib.hid ⟨step_below hM.bel hb01, hM.l.below hb01, hM.r.below hb01, hbx⟩
    have HP := Lib.hid (hP.below hb01)
    have HT1 := Lib.hid (HT.out.later HM.out.bel)
    clear hM hb12 hb01 h4 hP
    go_wp2_with (first
      | (refine store_mi rfl _ _ rfl Bm mL mR rfl rfl nilS nilS ho1 ho2 hbx2 ?_; try rw [hW3])
      | (refine load_mi rfl _ rfl Bm mL mR rfl hbx ?_))
    clear hW2 hW3 hBm hbx2 ho1 ho2
    have HI := Lib.hid (fun (W : World) (hW : Below w1.heap.size w1 W) => implMPair_any W mL mR pv ls rs xs (HM.out.l.below hW) (HM.out.r.below hW) (HP.out.below hW))
    have HS := Lib.hid (fun (W : World) (hW : Below w1.heap.size w1 W) => specMPair_any W mL mR pv ls rs xs (HM.out.l.below hW) (HM.out.r.below hW) (HP.out.below hW))
    have HA := Lib.hid (fun (W : World) (hW : Below w1.heap.size w1 W) => implMAll_any W mL mR ls rs (HM.out.l.below hW) (HM.out.r.below hW) (HT1.out.later hW))
    have HK := Lib.hid (fun (W : World) (hW : Below w1.heap.size w1 W) => implBlocks_any W mL mR pv ls rs xs (HM.out.l.below hW) (HM.out.r.below hW) (HP.out.below hW))
    cases hok : pairOk ls rs xs with
    | false =>
      rw [hok] at HI HS
      clear hok HA HK
      refine (HI.out _ (Below.refl w1.heap.size w1)).mono ?_
      rintro e w2 ⟨rfl, hb2⟩
      have HB2 := Lib.hid (step_below (Below.refl w1.heap.size w1) hb2)
      have hbx2 := kept_obj HB2.out HM.out.bx
      clear hb2
      go_wp2_with (refine load_mi rfl _ rfl Bm mL mR rfl (by assumption) ?_)
      refine (HS.out _ HB2.out).mono ?_
      rintro e w3 ⟨rfl, hb3⟩
      have HB3 := Lib.hid (step_below HB2.out hb3)
      have hbx3 := kept_obj HB3.out HM.out.bx
      clear hb3
      have HF := Lib.hid (step_below HM.out.bel HB3.out)
      go_wp2
      go_ret
      exact ⟨rfl, by first | exact HF.out | simpa using HF.out⟩
    | true =>
      have hmk : mktOk ls rs = true := by unfold pairOk at hok; rw [Bool.and_eq_true] at hok; exact hok.1
      obtain ⟨b0, hb0⟩ : ∃ b0, (blocksOf ls rs xs).isEmpty = b0 := ⟨_, rfl⟩
      have hmem : decide (xs ∈ allL ls rs) = b0 := by
        rw [← hb0, Bool.eq_iff_iff, decide_eq_true_iff, mem_allL hmk]
        unfold stableB
        rw [hok, Bool.true_and]
      have hbl : ((blocksL ls rs xs).length == 0) = b0 := by
        rw [← hb0, blocksL_yes hok, List.length_map]
        cases blocksOf ls rs xs <;> rfl
      have hal5 := allL_len5 ls rs
      have hbf := blocksL_len ls rs xs
      obtain ⟨al, hal⟩ : ∃ al, allL ls rs = al := ⟨_, rfl⟩
      obtain ⟨bl, hbl2⟩ : ∃ bl, blocksL ls rs xs = bl := ⟨_, rfl⟩
      rw [hal] at hal5 hmem HA
      rw [hbl2] at hbl hbf HK
      rw [hok] at HI HS HK
      rw [hmk] at HA
      have HMEM := Lib.hid hmem
      have HBL : Hid ((((bl.length : Nat) : Int) == 0) = b0 ∧ (bl.length == 0) = b0) := Lib.hid ⟨by rw [← hbl, Bool.eq_iff_iff, beq_iff_eq, beq_iff_eq]; omega, hbl⟩
      clear hok hmk hb0 hmem hbl hal hbl2 hbf
      refine (HI.out _ (Below.refl w1.heap.size w1)).mono ?_
      rintro e w2 ⟨rfl, hb2⟩
      have HB2 := Lib.hid (step_below (Below.refl w1.heap.size w1) hb2)
      have hbx2 := kept_obj HB2.out HM.out.bx
      clear hb2
      go_wp2_with (refine load_mi rfl _ rfl Bm mL mR rfl (by assumption) ?_)
      refine (HS.out _ HB2.out).mono ?_
      rintro e w3 ⟨rfl, hb3⟩
      have HB3 := Lib.hid (step_below HB2.out hb3)
      have hbx3 := kept_obj HB3.out HM.out.bx
      clear hb3
      go_wp2_with (refine load_mi rfl _ rfl Bm mL mR rfl (by assumption) ?_)
      refine (HA.out _ HB3.out).mono ?_
      rintro e w4 ⟨v4, us4, rfl, hb4, ho4⟩
      obtain ⟨A4, c4, rfl⟩ := owns_rows_slice ho4
      have HB4 := Lib.hid (step_below HB3.out hb4)
      have hbx4 := kept_obj HB4.out HM.out.bx
      have HX4 := Lib.hid (rows_of_owns ho4)
      clear hb4
      clear ho4
      go_wp2_with (refine load_mi rfl _ rfl Bm mL mR rfl (by assumption) ?_)
      refine (HK.out _ HB4.out).mono ?_
      rintro e w5 ⟨v5, us5, rfl, hb5, ho5⟩
      obtain ⟨A5, c5, rfl⟩ := owns_rows_slice ho5
      replace HX4 := Lib.hid (HX4.out.below hb5)
      have HB5 := Lib.hid (step_below HB4.out hb5)
      have hbx5 := kept_obj HB5.out HM.out.bx
      clear hb5
      clear ho5
      go_wp2
      go_loopw [11, 12] (fun hv iv wr => ∃ k q : Nat, k ≤ al.length ∧ iv = .int .i64 k ∧ hv = .bool (decide (xs ∈ al.take k)) ∧ wr = w5.drewN q) (fun _ iv _ => al.length - (intOf iv).toNat)
      case atStart => exact ⟨0, 0, Nat.zero_le _, rfl, by simp, rfl⟩
      case round =>
        obtain ⟨k, q, hk, rfl, rfl, rfl⟩ := hrel
        by_cases hlt : k < al.length
        · obtain ⟨A', cap', e', hm', hc'⟩ := HX4.out.at
          obtain ⟨bx, off, u, hA, hcell, hu⟩ := hc' k hlt
          obtain ⟨rfl, -⟩ : A4 = A' ∧ c4 = cap' := by simpa using e'
          subst hA
          have mx : (w5.drewN q).cell? ⟨bx, off + k, none⟩ = some u := hcell
          have HU := Lib.hid (hu.drewN q)
          have HPQ := Lib.hid ((HP.out.below HB5.out).drewN q)
          have htk : decide (xs ∈ al.take (k + 1)) = (decide (xs ∈ al.take k) || decide (al[k] = xs)) := by
            rw [List.take_succ_eq_append_getElem hlt, Bool.eq_iff_iff, Bool.or_eq_true, decide_eq_true_iff, decide_eq_true_iff, decide_eq_true_iff, List.mem_append, List.mem_singleton]
            exact ⟨fun h => h.imp id Eq.symm, fun h => h.imp id Eq.symm⟩
          have HTK := Lib.hid htk
          have hki : (k : Int) < (al.length : Int) := by omega
          have hk0 : (0 : Int) ≤ (k : Int) := by omega
          obtain ⟨y, hy⟩ : ∃ y, al[k] = y := ⟨_, rfl⟩
          rw [hy] at HU HTK
          clear hc' e' hm' hcell hu htk hy
          cases hin : decide (xs ∈ al.take k) with
          | true =>
            rw [hin] at HTK
            clear hin
            go_wp2
            go_roundw
            case rel => exact ⟨k + 1, q, by omega, by go_num, by rw [HTK.out]; rfl, rfl⟩
            case measure => simp [intOf]; omega
          | false =>
            rw [hin] at HTK
            clear hin
            go_wp2_with fail
            refine (sameInts_any _ _ _ y xs HU.out HPQ.out).mono ?_
            rintro e w9 ⟨rfl, q9, rfl⟩
            obtain ⟨b9, hb9⟩ : ∃ b9, decide (y = xs) = b9 := ⟨_, rfl⟩
            rw [hb9] at HTK ⊢
            clear hb9
            go_wp2
            go_roundw
            case rel => exact ⟨k + 1, q + q9, by omega, by go_num, by rw [HTK.out]; rfl, by simp⟩
            case measure => simp [intOf]; omega
        · obtain rfl : k = al.length := by omega
          rw [List.take_length, HMEM.out]
          have HF := Lib.hid (below_drewN (step_below HM.out.bel HB5.out) q)
          obtain ⟨g1, g2⟩ := HBL.out
          cases b0 with
          | true =>
            have g3 : bl.length = 0 := by simpa using g2
            go_wp2
            go_ret
            exact ⟨by first | rfl | simp [g3], HF.out⟩
          | false =>
            have g3 : bl.length ≠ 0 := by simpa using g2
            go_wp2
            go_ret
            exact ⟨by first | rfl | simp [g3], HF.out⟩
  · have e1 : ((1048576 : Int) < (L : Int)) = True := by simp; omega
    go_enter Tryd.func5, Tryd.ntmps5
    go_wp2
    go_ret
    exact ⟨rfl, Below.refl _ _⟩

end Go.Proofs.YtahilcnmjnjcaaaDoor
