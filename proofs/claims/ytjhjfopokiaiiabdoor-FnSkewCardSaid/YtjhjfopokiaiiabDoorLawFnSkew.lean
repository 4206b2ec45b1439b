/-
  FnSkew: a skew table is even exactly if all is 0.
-/
import Derived.Test.YtjhjfopokiaiiabDoorGivesTable
import Derived.Test.YtjhjfopokiaiiabDoorImplTEven
import Derived.Test.YtjhjfopokiaiiabDoorImplTSkew
import Derived.Test.YtjhjfopokiaiiabDoorImplTPf
import Derived.Test.YtjhjfopokiaiiabDoorAllZ
namespace Go.Proofs.YtjhjfopokiaiiabDoor
set_option linter.unusedVariables false
set_option linter.unusedSimpArgs false
open Go.RowKit

set_option maxRecDepth 100000 in
set_option maxHeartbeats 1000000 in
theorem drawTable_any (w : World) (A : Option Addr) (L cap : Nat) (hc : L ≤ cap) (hm : L ≤ maxLen) (hx : Code8 w A L) :
    Calls Tryd.prog 8 #[.slice A L cap] w (GivesTable w) := by
  have HO := Lib.hid (open_any w A L cap hc hm)
  have HX := Lib.hid hx
  clear hx hm hc
  go_enter Tryd.func8, Tryd.ntmps8
  go_wp2_with fail
  refine HO.out.mono ?_
  rintro e w1 ⟨r, M, cap', rfl, hM, hML, hrw, hr, hb1⟩
  have hlt : r < w1.heap.size := (Array.getElem?_eq_some_iff.1 hr).1
  have HT := Lib.hid (table_any w1 r M cap' 0 A (-1) hr ((HX.out.less hML).bytes hb1 r hrw) hM hlt (by omega))
  have HB := Lib.hid hb1
  clear hr hb1 hM hML
  go_wp2_with fail
  refine HT.out.mono ?_
  rintro e w2 ⟨v, us, xss, n, rfl, -, -, -, ho, hw⟩
  have HH := Lib.hid (And.intro (rows_of_owns ho) (Below.within HB.out hw hrw))
  clear ho hw
  go_wp2
  go_ret
  exact ⟨v, xss, rfl, HH.out.1, HH.out.2⟩


set_option maxRecDepth 100000 in
set_option maxHeartbeats 4000000 in
theorem FnSkew_final (w : World) (A : Option Addr) (L cap : Nat) (hc : L ≤ cap) (hm : L ≤ maxLen) (hx : Code8 w A L) (hT : Tab w) :
    Calls Tryd.prog 3 #[.slice A L cap] w fun e w' => e = .returned (.bool true) ∧ Below w.heap.size w w' := by
  have HD := Lib.hid (drawTable_any w A L cap hc hm hx)
  have HT := Lib.hid hT
  unfold maxLen at hm
  clear hx hT
  by_cases hbig : L ≤ 1048576
  · have e1 : ((1048576 : Int) < (L : Int)) = False := by simp; omega
    go_enter Tryd.func3, Tryd.ntmps3
    go_wp2_with fail
    refine HD.out.mono ?_
    rintro e w1 ⟨v, xss, rfl, hi, hb1⟩
    have HI := Lib.hid (implTSkew_any w1 v xss hi)
    have HS := Lib.hid (fun W (hW : IntRows W v xss) => specTSkew_any W v xss hW)
    have HPF := Lib.hid (fun W (hW : IntRows W v xss) (hT : Tab W) => implTPf_any W v xss hW hT)
    have HEV := Lib.hid (fun W (hW : IntRows W v xss) => implTEven_any W v xss hW)
    have HR := Lib.hid hi
    have HB1 := Lib.hid hb1
    clear hi hb1
    obtain ⟨A', cap', rfl, hml, -⟩ := HR.out.at
    unfold maxLen at hml
    obtain ⟨a, ha⟩ : ∃ a, pfOf xss = a := ⟨_, rfl⟩
    rw [ha] at HPF
    clear ha
    cases ht : skewOf xss with
    | false =>
      rw [ht] at HI HS
      clear ht
      go_wp2_with fail
      refine HI.out.mono ?_
      rintro e w2 ⟨rfl, hb2⟩
      go_wp2_with fail
      refine (HS.out _ (HR.out.below hb2)).mono ?_
      rintro e w3 ⟨rfl, hb3⟩
      go_wp2
      go_ret
      exact ⟨rfl, step_below (step_below HB1.out hb2) hb3⟩
    | true =>
      rw [ht] at HI HS HPF
      have hez := even_zero ht
      have htin : tIn xss = true := by unfold skewOf at ht; rw [Bool.and_eq_true] at ht; exact ht.1
      obtain ⟨h1, h6, hsq⟩ := tIn_facts htin
      rw [hez] at HEV
      have HSQ := Lib.hid hsq
      clear hez ht htin hsq
      go_wp2_with fail
      refine HI.out.mono ?_
      rintro e w2 ⟨rfl, hb2⟩
      go_wp2_with fail
      refine (HS.out _ (HR.out.below hb2)).mono ?_
      rintro e w3 ⟨rfl, hb3⟩
      have hB3 := step_below (step_below HB1.out hb2) hb3
      go_wp2_with fail
      refine (HPF.out _ ((HR.out.below hb2).below hb3) (HT.out.later hB3)).mono ?_
      rintro e w4 ⟨rfl, hb4⟩
      have HR4 := Lib.hid (((HR.out.below hb2).below hb3).below hb4)
      have HB4 := Lib.hid (step_below hB3 hb4)
      clear hB3 hb2 hb3 hb4 HI HS HPF HB1 HR
      obtain ⟨A4, cap4, hA4, hm4, hc4⟩ := HR4.out.at
      simp only [Value.slice.injEq] at hA4
      obtain ⟨rfl, -, rfl⟩ := hA4
      have HC := Lib.hid hc4
      clear hc4
      go_wp2_with fail
      go_loopw [8, 9, 10] (fun z i _ wr => ∃ m q : Nat, m ≤ xss.length ∧ i = .int .i64 m ∧ z = .bool (allz (flat xss) xss.length m 0) ∧ wr = w4.drewN q) (fun _ i _ _ => xss.length - (intOf i).toNat)
      case atStart => exact ⟨0, 0, by omega, rfl, rfl, rfl⟩
      case round =>
        obtain ⟨m, q, hm1, rfl, rfl, rfl⟩ := hrel
        by_cases hlt : m < xss.length
        · have hmi : (m : Int) < (xss.length : Int) := by omega
          have hm0 : (0 : Int) ≤ (m : Int) := by omega
          go_wp2
          go_loopw [8, 10] (fun z k wr => ∃ j q : Nat, j ≤ xss.length ∧ k = .int .i64 j ∧ z = .bool (allz (flat xss) xss.length m j) ∧ wr = w4.drewN q) (fun _ k _ => xss.length - (intOf k).toNat)
          case atStart => exact ⟨0, q, by omega, rfl, rfl, rfl⟩
          case round =>
            obtain ⟨j, q2, hj, rfl, rfl, rfl⟩ := hrel
            by_cases hjl : j < xss.length
            · have hji : (j : Int) < (xss.length : Int) := by omega
              have hj0 : (0 : Int) ≤ (j : Int) := by omega
              obtain ⟨b, off, u, rfl, hcell, hints⟩ := HC.out m hlt
              obtain ⟨A2, cap2, rfl, hm2, hc2⟩ := hints
              have hrl := (HSQ.out m hlt).1
              obtain ⟨b2, off2, rfl, hcell2⟩ := hc2 j (by omega)
              have hx := flat_at xss hlt (show j < xss[m].length by omega) (by omega)
              have hst := allz_step (flat xss) xss.length m j
              rw [hx] at hst
              obtain ⟨n2, hn2⟩ : ∃ n2, xss[m].length = n2 := ⟨_, rfl⟩
              obtain ⟨x, hxe⟩ : ∃ x, xss[m][j] = x := ⟨_, rfl⟩
              rw [hn2] at hcell hrl
              rw [hxe] at hcell2 hst
              have hjn : (j : Int) < (n2 : Int) := by omega
              obtain ⟨z, hz⟩ : ∃ z, allz (flat xss) xss.length m j = z := ⟨_, rfl⟩
              rw [hz] at hst ⊢
              have HST := Lib.hid hst
              clear hst hx hn2 hxe hc2 hm2 hrl hz
              cases z with
              | false =>
                go_wp2
                go_roundw
                case rel => exact ⟨j + 1, q2, by omega, by go_num, by rw [HST.out]; rfl, rfl⟩
                case measure => simp [intOf]; omega
              | true =>
                cases hx0 : (x == 0) with
                | false =>
                  rw [hx0] at HST
                  go_wp2
                  go_roundw
                  case rel => exact ⟨j + 1, q2, by omega, by go_num, by rw [HST.out]; rfl, rfl⟩
                  case measure => simp [intOf]; omega
                | true =>
                  rw [hx0] at HST
                  go_wp2
                  go_roundw
                  case rel => exact ⟨j + 1, q2, by omega, by go_num, by rw [HST.out]; rfl, rfl⟩
                  case measure => simp [intOf]; omega
            · have hjj : j = xss.length := by omega
              subst hjj
              have hrow := allz_row (flat xss) xss.length m
              have HROW := Lib.hid hrow
              clear hrow
              go_wp2
              go_roundw
              case rel => exact ⟨m + 1, q2, by omega, by go_num, by rw [← HROW.out], rfl⟩
              case measure => simp [intOf]; omega
        · have hmm : m = xss.length := by omega
          subst hmm
          have HEV2 := Lib.hid (HEV.out (w4.drewN q) (HR4.out.drewN q))
          obtain ⟨z, hz⟩ : ∃ z, allz (flat xss) xss.length xss.length 0 = z := ⟨_, rfl⟩
          rw [hz] at HEV2 ⊢
          clear hz HEV
          cases z with
          | false =>
            go_wp2_with fail
            refine HEV2.out.mono ?_
            rintro e w5 ⟨rfl, hb5⟩
            have HF := Lib.hid (step_below (below_drewN HB4.out q) hb5)
            clear hb5
            go_wp2
            go_ret
            exact ⟨rfl, HF.out⟩
          | true =>
            go_wp2_with fail
            refine HEV2.out.mono ?_
            rintro e w5 ⟨rfl, hb5⟩
            have HF := Lib.hid (step_below (below_drewN HB4.out q) hb5)
            clear hb5
            go_wp2
            go_ret
            exact ⟨rfl, HF.out⟩
  · have e1 : ((1048576 : Int) < (L : Int)) = True := by simp; omega
    go_enter Tryd.func3, Tryd.ntmps3
    go_wp2
    go_ret
    exact ⟨rfl, Below.refl _ _⟩

end Go.Proofs.YtjhjfopokiaiiabDoor
