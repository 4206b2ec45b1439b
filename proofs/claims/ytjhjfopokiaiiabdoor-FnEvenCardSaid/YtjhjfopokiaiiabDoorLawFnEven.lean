/-
  FnEven: the Hafnian of an odd number of rows is 0.
-/
import Derived.Test.YtjhjfopokiaiiabDoorGivesTable
import Derived.Test.YtjhjfopokiaiiabDoorImplTEven
import Derived.Test.YtjhjfopokiaiiabDoorImplTHaf
namespace Go.Proofs.YtjhjfopokiaiiabDoor
set_option linter.unusedVariables false
set_option linter.unusedSimpArgs false
open Go.RowKit

set_option maxRecDepth 100000 in
set_option maxHeartbeats 1000000 in
theorem drawTable_any (w : World) (A : Option Addr) (L cap : Nat) (hc : L ≤ cap) (hm : L ≤ maxLen) (hx : Code8 w A L) :
    Calls Tryd.prog 13 #[.slice A L cap] w (GivesTable w) := by
  have HO := Lib.hid (open_any w A L cap hc hm)
  have HX := Lib.hid hx
  clear hx hm hc
  go_enter Tryd.func13, Tryd.ntmps13
  go_wp2_with fail
  refine HO.out.mono ?_
  rintro e w1 ⟨r, M, cap', rfl, hM, hML, hrw, hr, hb1⟩
  have hlt : r < w1.heap.size := (Array.getElem?_eq_some_iff.1 hr).1
  have HT := Lib.hid (table_any w1 r M cap' 0 A 1 hr ((HX.out.less hML).bytes hb1 r hrw) hM hlt (by omega))
  have HB := Lib.hid hb1
  clear hr hb1 hM hML
  go_wp2_with fail
  refine HT.out.mono ?_
  rintro e w2 ⟨v, us, xss, n, rfl, -, -, -, ho, hw⟩
  have HH := Lib.hid (And.intro (rows_of_owns ho) (Below.within HB.out hw hrw))
  clear ho hw
  go_wp2
  go_ret
  exact ⟨v, xss, rfl, HH.out.1, HH.out.2⟩


set_option maxRecDepth 100000 in
set_option maxHeartbeats 4000000 in
theorem FnEven_final (w : World) (A : Option Addr) (L cap : Nat) (hc : L ≤ cap) (hm : L ≤ maxLen) (hx : Code8 w A L) (hT : Tab w) :
    Calls Tryd.prog 4 #[.slice A L cap] w fun e w' => e = .returned (.bool true) ∧ Below w.heap.size w w' := by
  have HD := Lib.hid (drawTable_any w A L cap hc hm hx)
  have HT := Lib.hid hT
  unfold maxLen at hm
  clear hx hT
  by_cases hbig : L ≤ 1048576
  · have e1 : ((1048576 : Int) < (L : Int)) = False := by simp; omega
    go_enter Tryd.func4, Tryd.ntmps4
    go_wp2_with fail
    refine HD.out.mono ?_
    rintro e w1 ⟨v, xss, rfl, hi, hb1⟩
    have HI := Lib.hid (implTEven_any w1 v xss hi)
    have HS := Lib.hid (fun W (hW : IntRows W v xss) => specTEven_any W v xss hW)
    have HHF := Lib.hid (fun W (hW : IntRows W v xss) (hT : Tab W) => implTHaf_any W v xss hW hT)
    have HR := Lib.hid hi
    have HB1 := Lib.hid hb1
    clear hi hb1
    have hodd : evenOf xss = true → xss.length % 2 = 1 → hafOf xss = 0 := fun h1 h2 => by
      unfold hafOf
      rw [if_pos h1]
      exact mates_odd _ _ _ _ h2
    obtain ⟨A', cap', rfl, hml, -⟩ := HR.out.at
    unfold maxLen at hml
    cases ht : evenOf xss with
    | false =>
      rw [ht] at HI HS
      clear hodd ht
      go_wp2_with fail
      refine HI.out.mono ?_
      rintro e w2 ⟨rfl, hb2⟩
      go_wp2_with fail
      refine (HS.out _ (HR.out.below hb2)).mono ?_
      rintro e w3 ⟨rfl, hb3⟩
      go_wp2
      go_ret
      exact ⟨rfl, step_below (step_below HB1.out hb2) hb3⟩
    | true =>
      have ho := hodd ht
      rw [ht] at HI HS HHF
      obtain ⟨a, ha⟩ : ∃ a, hafOf xss = a := ⟨_, rfl⟩
      rw [ha] at HHF ho
      clear hodd ht ha
      by_cases h2 : xss.length % 2 = 1
      · have ha0 := ho h2
        subst ha0
        have m1 : ((xss.length : Int).tmod 2 == 0) = false := by rw [beq_eq_false_iff_ne, Int.tmod_eq_emod_of_nonneg (by omega)]; omega
        have m2 : ((xss.length : Int) % 2 == 0) = false := by rw [beq_eq_false_iff_ne]; omega
        clear h2 ho
        go_wp2_with fail
        refine HI.out.mono ?_
        rintro e w2 ⟨rfl, hb2⟩
        go_wp2_with fail
        refine (HS.out _ (HR.out.below hb2)).mono ?_
        rintro e w3 ⟨rfl, hb3⟩
        have hB3 := step_below (step_below HB1.out hb2) hb3
        go_wp2_with fail
        refine (HHF.out _ ((HR.out.below hb2).below hb3) (HT.out.later hB3)).mono ?_
        rintro e w4 ⟨rfl, hb4⟩
        have HF := Lib.hid (step_below hB3 hb4)
        clear hB3 hb4
        go_wp2
        go_ret
        exact ⟨rfl, HF.out⟩
      · have m1 : ((xss.length : Int).tmod 2 == 0) = true := by rw [beq_iff_eq, Int.tmod_eq_emod_of_nonneg (by omega)]; omega
        have m2 : ((xss.length : Int) % 2 == 0) = true := by rw [beq_iff_eq]; omega
        clear h2 ho
        go_wp2_with fail
        refine HI.out.mono ?_
        rintro e w2 ⟨rfl, hb2⟩
        go_wp2_with fail
        refine (HS.out _ (HR.out.below hb2)).mono ?_
        rintro e w3 ⟨rfl, hb3⟩
        have hB3 := step_below (step_below HB1.out hb2) hb3
        go_wp2_with fail
        refine (HHF.out _ ((HR.out.below hb2).below hb3) (HT.out.later hB3)).mono ?_
        rintro e w4 ⟨rfl, hb4⟩
        have HF := Lib.hid (step_below hB3 hb4)
        clear hB3 hb4
        go_wp2
        go_ret
        exact ⟨rfl, HF.out⟩
  · have e1 : ((1048576 : Int) < (L : Int)) = True := by simp; omega
    go_enter Tryd.func4, Tryd.ntmps4
    go_wp2
    go_ret
    exact ⟨rfl, Below.refl _ _⟩

end Go.Proofs.YtjhjfopokiaiiabDoor
