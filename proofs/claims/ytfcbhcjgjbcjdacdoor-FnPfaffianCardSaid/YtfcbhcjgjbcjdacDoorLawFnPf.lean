/-
  FnPfaffian: the square of the Pfaffian is the determinant.
-/
import Derived.Test.YtfcbhcjgjbcjdacDoorGivesTable
import Derived.Test.YtfcbhcjgjbcjdacDoorMonoSq
import Derived.Test.YtfcbhcjgjbcjdacDoorSpecTPf
import Derived.Test.YtfcbhcjgjbcjdacDoorRowsPush
import Derived.Deep.AppendLies
namespace Go.Proofs.YtfcbhcjgjbcjdacDoor
set_option linter.unusedVariables false
set_option linter.unusedSimpArgs false
open Go.RowKit

set_option maxRecDepth 100000 in
set_option maxHeartbeats 1000000 in
theorem drawTable_any (w : World) (A : Option Addr) (L cap : Nat) (hc : L ≤ cap) (hm : L ≤ maxLen) (hx : Code8 w A L) :
    Calls Tryd.prog 34 #[.slice A L cap] w (GivesTable w) := by
  have HO := Lib.hid (open_any w A L cap hc hm)
  have HX := Lib.hid hx
  unfold maxLen at hm
  clear hx hc
  go_enter Tryd.func34, Tryd.ntmps34
  go_wp2_with fail
  refine HO.out.mono ?_
  rintro e w1 ⟨r, M, cap', rfl, hM, hML, hrw, hr, hb1⟩
  have hlt : r < w1.heap.size := (Array.getElem?_eq_some_iff.1 hr).1
  have HT := Lib.hid (table_any w1 r M cap' 0 A (-1) hr ((HX.out.less hML).bytes hb1 r hrw) hM hlt (by omega))
  have HB := Lib.hid hb1
  clear hr hb1 hM hML
  go_wp2_with fail
  refine HT.out.mono ?_
  rintro e w2 ⟨v, us, xss, n, rfl, -, -, -, ho, hw⟩
  have HH := Lib.hid (And.intro (rows_of_owns ho) (Below.within HB.out hw hrw))
  clear ho hw
  go_wp2
  go_ret
  exact ⟨v, xss, rfl, HH.out.1, HH.out.2⟩

set_option maxRecDepth 100000 in
set_option maxHeartbeats 8000000 in
theorem FnPfaffian_final (w : World) (A : Option Addr) (L cap : Nat) (hc : L ≤ cap) (hm : L ≤ maxLen) (hx : Code8 w A L) (hT : Tab w) :
    Calls Tryd.prog 9 #[.slice A L cap] w fun e w' => e = .returned (.bool true) ∧ Below w.heap.size w w' := by
  have HD := Lib.hid (drawTable_any w A L cap hc hm hx)
  have HT := Lib.hid hT
  unfold maxLen at hm
  obtain ⟨i0, hi, hz0, hz1, hz2⟩ := info_parts infoRow
  obtain ⟨j0, hj, hy0, hy1, hy2⟩ := info_parts infoInt
  clear hx hT
  by_cases hbig : L ≤ 1048576
  · have e1 : ((1048576 : Int) < (L : Int)) = False := by simp; omega
    go_enter Tryd.func9, Tryd.ntmps9
    go_wp2_with fail
    refine HD.out.mono ?_
    rintro e w1 ⟨v, xss, rfl, hv, hb1⟩
    have HI := Lib.hid (fun (W : World) (u : Value) (ys : List (List Int)) (hW : IntRows W u ys) (hT : Tab W) => implTPf_any W u ys hW hT)
    have HS := Lib.hid (fun (W : World) (hW : IntRows W v xss) => specTPf_any W v xss hW)
    have HR := Lib.hid hv
    have HB1 := Lib.hid hb1
    clear hv hb1
    obtain ⟨A', cap', rfl, hml, -⟩ := HR.out.at
    unfold maxLen at hml
    have HDT := Lib.hid (fun (W : World) (u : Value) (ys : List (List Int)) (hW : IntRows W u ys) (hT : Tab W) => implTDet_any W u ys hW hT)
    obtain ⟨z, hz⟩ : ∃ z, pfOf xss = z := ⟨_, rfl⟩
    rw [hz] at HS
    cases ht : skewOf xss with
    | false =>
      have HI1 := Lib.hid (HI.out w1 _ xss HR.out (HT.out.later HB1.out))
      rw [ht] at HI1 HS
      rw [hz] at HI1
      clear ht hz
      go_wp2_with fail
      refine HI1.out.mono ?_
      rintro e w2 ⟨rfl, hb2⟩
      have hr2 := HR.out.below hb2
      have hB2 := step_below HB1.out hb2
      go_wp2_with fail
      refine (HS.out _ hr2).mono ?_
      rintro e w3 ⟨rfl, hb3⟩
      have HR3 := Lib.hid (hr2.below hb3)
      have HB3 := Lib.hid (step_below hB2 hb3)
      clear hr2 hB2 hb2 hb3 HI1 HS HR HB1
      go_wp2
      go_ret
      exact ⟨rfl, HB3.out⟩
    | true =>
      have HI1 := Lib.hid (HI.out w1 _ xss HR.out (HT.out.later HB1.out))
      rw [ht] at HI1 HS
      rw [hz] at HI1
      have HTT := Lib.hid (And.intro ht hz)
      clear ht hz
      go_wp2_with fail
      refine HI1.out.mono ?_
      rintro e w2 ⟨rfl, hb2⟩
      have hr2 := HR.out.below hb2
      have hB2 := step_below HB1.out hb2
      go_wp2_with fail
      refine (HS.out _ hr2).mono ?_
      rintro e w3 ⟨rfl, hb3⟩
      have HR3 := Lib.hid (hr2.below hb3)
      have HB3 := Lib.hid (step_below hB2 hb3)
      clear hr2 hB2 hb2 hb3 HI1 HS HR HB1
      have hpf := pf_square HTT.out.1
      have hbd := pf_bound xss
      have hti := skewOf_in HTT.out.1
      have HD1 := Lib.hid (HDT.out w3 _ xss HR3.out (HT.out.later HB3.out))
      rw [HTT.out.2] at hpf hbd
      obtain ⟨d, hd⟩ : ∃ d, detOf xss = d := ⟨_, rfl⟩
      rw [hti, hd] at HD1
      rw [hd] at hpf
      have hdb : -600000000000 ≤ d ∧ d ≤ 600000000000 := by
        rw [← hpf]
        have := mul_bound (B := 405000) (C := 405000) (by omega) (by omega) hbd hbd
        omega
      have hw1 : wrap64 (z * z) = d := by rw [hpf]; unfold wrap64; omega
      have hw2 : IntKind.i64.wrap (z * z) = d := by rw [hpf, IntKind.wrap_i64]; omega
      clear hpf hbd hdb hd hti HTT
      go_wp2_with fail
      refine HD1.out.mono ?_
      rintro e w4 ⟨rfl, hb4⟩
      have HF := Lib.hid (step_below HB3.out hb4)
      clear hb4
      go_wp2
      go_ret
      exact ⟨rfl, HF.out⟩
  · have e1 : ((1048576 : Int) < (L : Int)) = True := by simp; omega
    go_enter Tryd.func9, Tryd.ntmps9
    go_wp2
    go_ret
    exact ⟨rfl, Below.refl _ _⟩

end Go.Proofs.YtfcbhcjgjbcjdacDoor
