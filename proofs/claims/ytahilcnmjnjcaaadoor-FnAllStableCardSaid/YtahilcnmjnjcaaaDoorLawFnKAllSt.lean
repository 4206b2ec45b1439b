/-
  FnAllStable: all stable pairings are listed in order, and there is one if both sides ask for the same.
-/
import Derived.Test.YtahilcnmjnjcaaaDoorMkSt
import Derived.Test.YtahilcnmjnjcaaaDoorLeftMath
import Derived.Test.YtahilcnmjnjcaaaDoorSM
import Derived.Test.YtahilcnmjnjcaaaDoorImplMLeft
import Derived.Test.YtahilcnmjnjcaaaDoorImplMAll
import Derived.Test.YtahilcnmjnjcaaaDoorSpecMA
import Derived.Test.YtahilcnmjnjcaaaDoorCore1
import Derived.Test.YtahilcnmjnjcaaaDoorDrawM0
namespace Go.Proofs.YtahilcnmjnjcaaaDoor
set_option linter.unusedVariables false
set_option linter.unusedSimpArgs false
open Go.RowKit
theorem prev_facts {i m : Nat} (h : i = m + 1) (hi : i ≤ 100000) : wrap64 ((i : Int) - 1) = (m : Int) ∧ IntKind.i64.wrap ((i : Int) - 1) = (m : Int) ∧ (i : Int) - 1 = (m : Int) := by
  refine ⟨by unfold wrap64; omega, by rw [IntKind.wrap_i64]; omega, by omega⟩
set_option maxRecDepth 100000 in
set_option maxHeartbeats 4000000 in
theorem FnAllStable_final (w : World) (A : Option Addr) (L cap : Nat) (hc : L ≤ cap) (hm : L ≤ maxLen) (hx : Code8 w A L) (hT : Tab w) :
    Calls Tryd.prog 9 #[.slice A L cap] w fun e w' => e = .returned (.bool true) ∧ Below w.heap.size w w' := by
  have HD := Lib.hid (DrawMarketAll_any w A L cap hc hm hx)
  have HT := Lib.hid hT
  clear hT
  unfold maxLen at hm
  clear hx
  by_cases hbig : L ≤ 1048576
  · have e1 : ((1048576 : Int) < (L : Int)) = False := by simp; omega
    go_enter Tryd.func9, Tryd.ntmps9
    go_wp2_with fail
    refine HD.out.mono ?_
    rintro e w0 ⟨mL, mR, ls, rs, rfl, hM, h4⟩
    have ho1 := rows_one hM.l
    have ho2 := rows_one hM.r
    obtain ⟨Bm, hBm⟩ : ∃ Bm, w0.heap.size = Bm := ⟨_, rfl⟩
    obtain ⟨W2, hW2⟩ : ∃ W2, w0.alloc (.cells (two nilS nilS) 28) = W2 := ⟨_, rfl⟩
    have hb12 : Below w0.heap.size w0 W2 := by rw [← hW2]; exact (Below.refl _ _).alloc (Nat.le_refl _) _
    have hbx2 : W2.heap[Bm]? = some (.cells (two nilS nilS) 28 (0, 0)) := by rw [← hW2, ← hBm]; exact World.alloc_heap_new _ _
    obtain ⟨w1, hW3⟩ : ∃ w1, W2.setRow Bm (two mL mR) = w1 := ⟨_, rfl⟩
    have hb01 : Below w0.heap.size w0 w1 := by rw [← hW3]; exact below_setRow2 hb12 (by omega) _
    have hbx : w1.heap[Bm]? = some (.cells (two mL mR) 28 (0, 0)) := by rw [← hW3]; exact heap_setRow2 hbx2
    have HM : Hid (MkB w w1 Bm mL mR ls rs) := Lib.hid ⟨step_below hM.bel hb01, hM.l.below hb01, hM.r.below hb01, hbx⟩
    have HT1 := Lib.hid (HT.out.later HM.out.bel)
    clear hM hb12 hb01 h4
    go_wp2_with (first
      | (refine store_mi rfl _ _ rfl Bm mL mR rfl rfl nilS nilS ho1 ho2 hbx2 ?_; try rw [hW3])
      | (refine load_mi rfl _ rfl Bm mL mR rfl hbx ?_))
    clear hW2 hW3 hBm hbx2 ho1 ho2
    have HA := Lib.hid (fun (W : World) (hW : Below w1.heap.size w1 W) => implMAll_any W mL mR ls rs (HM.out.l.below hW) (HM.out.r.below hW) (HT1.out.later hW))
    have HS := Lib.hid (fun (W : World) (hW : Below w1.heap.size w1 W) => specMAll_any W mL mR ls rs (HM.out.l.below hW) (HM.out.r.below hW))
    have HI := Lib.hid (fun (W : World) (hW : Below w1.heap.size w1 W) => implMLeft_any W mL mR ls rs (HM.out.l.below hW) (HM.out.r.below hW))
    have HJ := Lib.hid (fun (W : World) (hW : Below w1.heap.size w1 W) => implMRight_any W mL mR ls rs (HM.out.l.below hW) (HM.out.r.below hW))
    cases hok : mktOk ls rs with
    | false =>
      have HE := Lib.hid (allL_no hok)
      rw [hok] at HA HS
      clear hok HI HJ
      refine (HA.out _ (Below.refl w1.heap.size w1)).mono ?_
      rintro e w2 ⟨v2, us2, rfl, hb2, ho2⟩
      have HB2 := Lib.hid (step_below (Below.refl w1.heap.size w1) hb2)
      have hbx2 := kept_obj HB2.out HM.out.bx
      have HY1 := Lib.hid (show IntRows _ v2 [] from by rw [HE.out] at ho2; exact rows_of_owns ho2)
      clear hb2
      go_wp2_with (refine load_mi rfl _ rfl Bm mL mR rfl (by assumption) ?_)
      refine (HS.out _ HB2.out).mono ?_
      rintro e w3 ⟨v3, us3, rfl, hb3, ho3⟩
      replace HY1 := Lib.hid (HY1.out.below hb3)
      have HB3 := Lib.hid (step_below HB2.out hb3)
      have hbx3 := kept_obj HB3.out HM.out.bx
      have HY2 := Lib.hid (show IntRows _ v3 [] from by rw [HE.out] at ho3; exact rows_of_owns ho3)
      clear hb3
      clear ho2 ho3
      go_wp2_with (refine load_mi rfl _ rfl Bm mL mR rfl (by assumption) ?_)
      refine (sameRows_same _ _ _ [] HY1.out HY2.out).mono ?_
      rintro e w4 ⟨rfl, q4, rfl⟩
      replace HY1 := Lib.hid (HY1.out.drewN q4)
      replace HY2 := Lib.hid (HY2.out.drewN q4)
      have HB4 := Lib.hid (below_drewN HB3.out q4)
      have hbx4 := kept_obj HB4.out HM.out.bx
      go_wp2_with (refine load_mi rfl _ rfl Bm mL mR rfl (by assumption) ?_)
      refine (sameRows_same _ _ _ [] HY1.out HY2.out).mono ?_
      rintro e w5 ⟨rfl, q5, rfl⟩
      replace HY1 := Lib.hid (HY1.out.drewN q5)
      replace HY2 := Lib.hid (HY2.out.drewN q5)
      have HB5 := Lib.hid (below_drewN HB4.out q5)
      have hbx5 := kept_obj HB5.out HM.out.bx
      have HF := Lib.hid (step_below HM.out.bel HB5.out)
      go_wp2
      go_ret
      exact ⟨rfl, by first | exact HF.out | simpa using HF.out⟩
    | true =>
      obtain ⟨b0, hb0⟩ : ∃ b0, decide (leftL ls rs = rightL ls rs) = b0 := ⟨_, rfl⟩
      have h1 : ((allL ls rs).length == 1) = b0 := by rw [← hb0, Bool.eq_iff_iff, beq_iff_eq, decide_eq_true_iff]; exact one_iff hok
      have hal5 := allL_len5 ls rs
      have hal1 := allL_some hok
      have hlex := allL_lex ls rs
      have hrk : ∀ p ∈ allL ls rs, p.length ≤ 5 := fun p hp => by
        have h := (stable_parts ((mem_allL hok).1 hp)).1
        have h2 := pair_parts h
        omega
      obtain ⟨al, hal⟩ : ∃ al, allL ls rs = al := ⟨_, rfl⟩
      obtain ⟨xs, hxs⟩ : ∃ xs, leftL ls rs = xs := ⟨_, rfl⟩
      obtain ⟨ys, hys⟩ : ∃ ys, rightL ls rs = ys := ⟨_, rfl⟩
      rw [hal] at h1 hal5 hal1 hlex hrk HA HS
      rw [hxs, hys] at hb0
      rw [hxs] at HI
      rw [hys] at HJ
      rw [hok] at HA HS HI HJ
      have HLEX := Lib.hid (List.pairwise_iff_getElem.1 hlex)
      have HRK := Lib.hid hrk
      have HB0 := Lib.hid hb0
      have HBL : Hid ((((al.length : Nat) : Int) == 1) = b0 ∧ (al.length == 1) = b0) := Lib.hid ⟨by rw [← h1, Bool.eq_iff_iff, beq_iff_eq, beq_iff_eq]; omega, h1⟩
      clear hok h1 hlex hrk hal hxs hys hb0
      refine (HA.out _ (Below.refl w1.heap.size w1)).mono ?_
      rintro e w2 ⟨v2, us2, rfl, hb2, ho2⟩
      obtain ⟨A2, c2, rfl⟩ := owns_rows_slice ho2
      have HB2 := Lib.hid (step_below (Below.refl w1.heap.size w1) hb2)
      have hbx2 := kept_obj HB2.out HM.out.bx
      have HX2 := Lib.hid (rows_of_owns ho2)
      clear hb2
      go_wp2_with (refine load_mi rfl _ rfl Bm mL mR rfl (by assumption) ?_)
      refine (HS.out _ HB2.out).mono ?_
      rintro e w3 ⟨v3, us3, rfl, hb3, ho3⟩
      replace HX2 := Lib.hid (HX2.out.below hb3)
      have HB3 := Lib.hid (step_below HB2.out hb3)
      have hbx3 := kept_obj HB3.out HM.out.bx
      have HX3 := Lib.hid (rows_of_owns ho3)
      clear hb3
      clear ho2 ho3
      go_wp2_with (refine load_mi rfl _ rfl Bm mL mR rfl (by assumption) ?_)
      refine (sameRows_same _ _ _ al HX2.out HX3.out).mono ?_
      rintro e w4 ⟨rfl, q4, rfl⟩
      replace HX2 := Lib.hid (HX2.out.drewN q4)
      replace HX3 := Lib.hid (HX3.out.drewN q4)
      have HB4 := Lib.hid (below_drewN HB3.out q4)
      have hbx4 := kept_obj HB4.out HM.out.bx
      go_wp2_with (refine load_mi rfl _ rfl Bm mL mR rfl (by assumption) ?_)
      refine (HI.out _ HB4.out).mono ?_
      rintro e w5 ⟨v5, rfl, hb5, ho5⟩
      replace HX2 := Lib.hid (HX2.out.below hb5)
      replace HX3 := Lib.hid (HX3.out.below hb5)
      have HB5 := Lib.hid (step_below HB4.out hb5)
      have hbx5 := kept_obj HB5.out HM.out.bx
      have HY5 := Lib.hid (ints_of_owns ho5)
      clear hb5
      go_wp2_with (refine load_mi rfl _ rfl Bm mL mR rfl (by assumption) ?_)
      refine (HJ.out _ HB5.out).mono ?_
      rintro e w6 ⟨v6, rfl, hb6, ho6⟩
      replace HX2 := Lib.hid (HX2.out.below hb6)
      replace HX3 := Lib.hid (HX3.out.below hb6)
      replace HY5 := Lib.hid (HY5.out.below hb6)
      have HB6 := Lib.hid (step_below HB5.out hb6)
      have hbx6 := kept_obj HB6.out HM.out.bx
      have HY6 := Lib.hid (ints_of_owns ho6)
      clear hb6
      clear ho5 ho6
      obtain ⟨A', cap', e', hm', hc'⟩ := HX2.out.at
      obtain ⟨rfl, -⟩ : A2 = A' ∧ c2 = cap' := by simpa using e'
      have HCELL := Lib.hid hc'
      clear e' hm' hc'
      go_wp2
      go_loopw [12, 13, 14] (fun iv _ _ wr => ∃ i q : Nat, 1 ≤ i ∧ i ≤ al.length ∧ iv = .int .i64 i ∧ wr = w6.drewN q) (fun iv _ _ _ => al.length - (intOf iv).toNat)
      case atStart => exact ⟨1, 0, Nat.le_refl _, hal1, rfl, rfl⟩
      case round =>
        obtain ⟨i, q, hi1, hi, rfl, rfl⟩ := hrel
        by_cases hlt : i < al.length
        · obtain ⟨m, hm1⟩ : ∃ m, i = m + 1 := ⟨i - 1, by omega⟩
          have hml : m < al.length := by omega
          obtain ⟨bx, off, u1, hA, hcell1, hu1⟩ := HCELL.out m hml
          obtain ⟨bx', off', u2, hA2, hcell2, hu2⟩ := HCELL.out i hlt
          rw [hA] at hA2
          obtain ⟨rfl, rfl⟩ : bx = bx' ∧ off = off' := by simpa using hA2
          subst hA
          obtain ⟨j, heq, x, y, hx, hy, hxy⟩ := HLEX.out m i hml hlt (by omega)
          have hp5 := HRK.out _ (List.getElem_mem hlt)
          obtain ⟨p1, hp1⟩ : ∃ p, al[m] = p := ⟨_, rfl⟩
          obtain ⟨p2, hp2⟩ : ∃ p, al[i] = p := ⟨_, rfl⟩
          rw [hp1] at hu1 heq hx
          rw [hp2] at hu2 heq hy hp5
          have hj1 := (List.getElem?_eq_some_iff.1 hx).1
          have hj2 := (List.getElem?_eq_some_iff.1 hy).1
          obtain ⟨B1, d1, rfl, hn1, hk1⟩ := hu1
          obtain ⟨B2, d2, rfl, hn2, hk2⟩ := hu2
          have HK1 := Lib.hid hk1
          have HK2 := Lib.hid hk2
          have HEQ := Lib.hid heq
          have HXY := Lib.hid (And.intro hx (And.intro hy hxy))
          obtain ⟨n2, hn2'⟩ : ∃ n2, p2.length = n2 := ⟨_, rfl⟩
          obtain ⟨n1, hn1'⟩ : ∃ n1, p1.length = n1 := ⟨_, rfl⟩
          have HN := Lib.hid (And.intro hn1' hn2')
          rw [hn2'] at hj2 hcell2 hp5
          rw [hn1'] at hj1 hcell1
          have hii : (i : Int) < (al.length : Int) := by omega
          have hi0 : (0 : Int) ≤ (i : Int) := by omega
          have hmi : (m : Int) < (al.length : Int) := by omega
          have hm0 : (0 : Int) ≤ (m : Int) := by omega
          obtain ⟨f1, f2, f3⟩ := prev_facts hm1 (by omega)
          clear hp1 hp2 hn1 hn2 hk1 hk2 heq hx hy hxy hm1 hn1' hn2'
          go_wp2
          go_loopw [13, 14] (fun lv kv wr => ∃ k q2 : Nat, kv = .int .i64 k ∧ ((lv = .bool false ∧ k ≤ j) ∨ (lv = .bool true ∧ k = j + 1)) ∧ wr = w6.drewN q2) (fun _ kv _ => 10 - (intOf kv).toNat)
          case atStart => exact ⟨0, q, rfl, .inl ⟨rfl, Nat.zero_le _⟩, rfl⟩
          case round =>
            obtain ⟨k, q2, rfl, hcase, rfl⟩ := hrel
            rcases hcase with ⟨rfl, hkj⟩ | ⟨rfl, rfl⟩
            · obtain ⟨b1, o1, rfl, hc1⟩ := HK1.out k (by rw [HN.out.1]; omega)
              obtain ⟨b2, o2, rfl, hc2⟩ := HK2.out k (by rw [HN.out.2]; omega)
              have hk1i : (k : Int) < (n1 : Int) := by omega
              have hk2i : (k : Int) < (n2 : Int) := by omega
              have hk0 : (0 : Int) ≤ (k : Int) := by omega
              by_cases hkk : k < j
              · have hab := HEQ.out k hkk
                rw [List.getElem?_eq_getElem (by rw [HN.out.1]; omega), List.getElem?_eq_getElem (by rw [HN.out.2]; omega)] at hab
                have hab' := Option.some.inj hab
                rw [hab'] at hc1
                obtain ⟨z, hz⟩ : ∃ z, p2[k]'(by rw [HN.out.2]; omega) = z := ⟨_, rfl⟩
                rw [hz] at hc1 hc2
                clear hab hab' hz
                go_wp2
                go_quiet (fail)
                go_wp2
                go_quiet (fail)
                go_wp2
                go_roundw
                case rel => exact ⟨k + 1, _, by go_num, .inl ⟨by first | rfl | simp, by omega⟩, by first | rfl | simp⟩
                case measure => simp [intOf]; omega
              · obtain rfl : k = j := by omega
                obtain ⟨hx, hy, hxy⟩ := HXY.out
                rw [List.getElem?_eq_getElem (by rw [HN.out.1]; omega)] at hx
                rw [List.getElem?_eq_getElem (by rw [HN.out.2]; omega)] at hy
                rw [Option.some.inj hx] at hc1
                rw [Option.some.inj hy] at hc2
                have hgt : ¬ (y < x) := by omega
                clear hx hy
                go_wp2
                go_quiet (fail)
                go_wp2
                go_quiet (fail)
                go_wp2
                go_roundw
                case rel => exact ⟨k + 1, _, by go_num, .inr ⟨by first | rfl | simp [hxy], rfl⟩, by first | rfl | simp⟩
                case measure => simp [intOf]; omega
            · by_cases hkl : j + 1 < n2
              · have hkl' : ((j + 1 : Nat) : Int) < (n2 : Int) := by omega
                go_wp2
                go_roundw
                case rel => exact ⟨i + 1, _, by omega, by omega, by go_num, by first | rfl | simp⟩
                case measure => simp [intOf]; omega
              · have hkl' : ¬ ((j + 1 : Nat) : Int) < (n2 : Int) := by omega
                go_wp2
                go_roundw
                case rel => exact ⟨i + 1, _, by omega, by omega, by go_num, by first | rfl | simp⟩
                case measure => simp [intOf]; omega
        · obtain rfl : i = al.length := by omega
          have HF := Lib.hid (below_drewN (step_below HM.out.bel HB6.out) q)
          obtain ⟨g1, g2⟩ := HBL.out
          clear hi1 hi hlt hal1
          go_wp2_with fail
          refine (sameInts_any _ _ _ xs ys (HY5.out.drewN q) (HY6.out.drewN q)).mono ?_
          rintro e w9 ⟨rfl, q9, rfl⟩
          rw [HB0.out]
          have HF9 := Lib.hid (below_drewN HF.out q9)
          cases b0 with
          | true =>
            have g3 : al.length = 1 := by simpa using g2
            go_wp2
            go_ret
            exact ⟨by first | rfl | simp [g3], by first | exact HF9.out | simpa using HF9.out⟩
          | false =>
            have g3 : al.length ≠ 1 := by simpa using g2
            go_wp2
            go_ret
            exact ⟨by first | rfl | simp [g3], by first | exact HF9.out | simpa using HF9.out⟩
  · have e1 : ((1048576 : Int) < (L : Int)) = True := by simp; omega
    go_enter Tryd.func9, Tryd.ntmps9
    go_wp2
    go_ret
    exact ⟨rfl, Below.refl _ _⟩

end Go.Proofs.YtahilcnmjnjcaaaDoor
