/-
  FnTable: the determinant and the permanent of a table are both even or both odd.
-/
import Derived.Test.YtjhjfopokiaiiaaDoorDrawTable
import Derived.Test.YtjhjfopokiaiiaaDoorImplTIn
import Derived.Test.YtjhjfopokiaiiaaDoorFinTDet
import Derived.Test.YtjhjfopokiaiiaaDoorFinTPerm
namespace Go.Proofs.YtjhjfopokiaiiaaDoor
set_option linter.unusedVariables false
set_option linter.unusedSimpArgs false
open Go.RowKit

/-- A drawn table is a list of lists in new memory. -/
def GivesTable (w : World) (e : Ending) (w' : World) : Prop := ∃ v xss, e = .returned v ∧ IntRows w' v xss ∧ Below w.heap.size w w'

set_option maxRecDepth 100000 in
set_option maxHeartbeats 1000000 in
theorem drawTable_any (w : World) (A : Option Addr) (L cap : Nat) (hc : L ≤ cap) (hm : L ≤ maxLen) (hx : Code8 w A L) :
    Calls Tryd.prog 19 #[.slice A L cap] w (GivesTable w) := by
  have HO := Lib.hid (open_any w A L cap hc hm)
  have HX := Lib.hid hx
  clear hx hm hc
  go_enter Tryd.func19, Tryd.ntmps19
  go_wp2_with fail
  refine HO.out.mono ?_
  rintro e w1 ⟨r, M, cap', rfl, hM, hML, hrw, hr, hb1⟩
  have hlt : r < w1.heap.size := (Array.getElem?_eq_some_iff.1 hr).1
  have HT := Lib.hid (table_any w1 r M cap' 0 A 0 hr ((HX.out.less hML).bytes hb1 r hrw) hM hlt (by omega))
  have HB := Lib.hid hb1
  clear hr hb1 hM hML
  go_wp2_with fail
  refine HT.out.mono ?_
  rintro e w2 ⟨v, us, xss, n, rfl, -, -, -, ho, hw⟩
  have HH := Lib.hid (And.intro (rows_of_owns ho) (Below.within HB.out hw hrw))
  clear ho hw
  go_wp2
  go_ret
  exact ⟨v, xss, rfl, HH.out.1, HH.out.2⟩

theorem sumS_par {sg sg' : Int} (hsg : sg = 1 ∨ sg = -1) (hsg' : sg' = 1 ∨ sg' = -1) {term term' : Nat → Int} (l : List Nat) (h : ∀ v ∈ l, (term v - term' v) % 2 = 0) : ((sumS sg term l).1 - (sumS sg' term' l).1) % 2 = 0 := by
  unfold sumS
  have key : ∀ (l : List Nat) (s s' : Int × Int), (s.2 = 1 ∨ s.2 = -1) → (s'.2 = 1 ∨ s'.2 = -1) → (s.1 - s'.1) % 2 = 0 → (∀ v ∈ l, (term v - term' v) % 2 = 0) → ((l.foldl (sumStep sg term) s).1 - (l.foldl (sumStep sg' term') s').1) % 2 = 0 := by
    intro l
    induction l with
    | nil => exact fun s s' _ _ h _ => h
    | cons v t ih =>
      intro s s' h1 h2 h3 hl
      rw [List.foldl_cons, List.foldl_cons]
      have hv := hl v (by simp)
      refine ih _ _ ?_ ?_ ?_ (fun u hu => hl u (by simp [hu]))
      · show s.2 * sg = 1 ∨ s.2 * sg = -1
        rcases h1 with a | a <;> rcases hsg with b | b <;> rw [a, b] <;> simp
      · show s'.2 * sg' = 1 ∨ s'.2 * sg' = -1
        rcases h2 with a | a <;> rcases hsg' with b | b <;> rw [a, b] <;> simp
      · show (s.1 + s.2 * term v - (s'.1 + s'.2 * term' v)) % 2 = 0
        rcases h1 with a | a <;> rcases h2 with b | b <;> rw [a, b] <;> omega
  exact key l _ _ (.inl rfl) (.inl rfl) (by decide) h
theorem expand_par (F : Nat → Int) : ∀ (d row left : Nat), (expand F (-1) d row left - expand F 1 d row left) % 2 = 0
  | 0, _, _ => by show ((1 : Int) - 1) % 2 = 0; decide
  | d + 1, row, left => by
    refine sumS_par (.inr rfl) (.inl rfl) (elems left) fun v _ => ?_
    have h := expand_par F d (row + 1) (wo8 left v)
    obtain ⟨k, hk⟩ := Int.dvd_of_emod_eq_zero h
    rw [← Int.mul_sub, hk, Int.mul_left_comm]
    exact Int.mul_emod_right _ _
theorem det_par (xss : List (List Int)) : (detOf xss - permOf xss) % 2 = 0 := by
  unfold detOf permOf
  split
  · exact expand_par _ _ _ _
  · decide
theorem det_bound (xss : List (List Int)) : -600000000000 ≤ detOf xss ∧ detOf xss ≤ 600000000000 ∧ -600000000000 ≤ permOf xss ∧ permOf xss ≤ 600000000000 := by
  unfold detOf permOf
  cases ht : tIn xss with
  | false => simp
  | true =>
    obtain ⟨h1, h6, _⟩ := tIn_facts ht
    have hl := full_len ⟨xss.length, by omega⟩
    have hlt := full_lt ⟨xss.length, by omega⟩
    simp only at hl hlt
    have a := expand_bound (flat_small ht) (.inr rfl : (-1 : Int) = 1 ∨ (-1 : Int) = -1) xss.length 0 (2 ^ xss.length - 1) (by omega) hl
    have b := expand_bound (flat_small ht) (.inl rfl : (1 : Int) = 1 ∨ (1 : Int) = -1) xss.length 0 (2 ^ xss.length - 1) (by omega) hl
    have hB := expB_le ⟨xss.length, by omega⟩
    simp only at hB
    simp only [if_true]
    omega

set_option maxRecDepth 100000 in
set_option maxHeartbeats 4000000 in
theorem FnTable_final (w : World) (A : Option Addr) (L cap : Nat) (hc : L ≤ cap) (hm : L ≤ maxLen) (hx : Code8 w A L) (hT : Tab w) :
    Calls Tryd.prog 7 #[.slice A L cap] w fun e w' => e = .returned (.bool true) ∧ Below w.heap.size w w' := by
  have HD := Lib.hid (drawTable_any w A L cap hc hm hx)
  have HT := Lib.hid hT
  unfold maxLen at hm
  clear hx hT
  by_cases hbig : L ≤ 1048576
  · have e1 : ((1048576 : Int) < (L : Int)) = False := by simp; omega
    go_enter Tryd.func7, Tryd.ntmps7
    go_wp2_with fail
    refine HD.out.mono ?_
    rintro e w1 ⟨v, xss, rfl, hi, hb1⟩
    have HI := Lib.hid (implTIn_any w1 v xss hi)
    have HS := Lib.hid (fun W (hW : IntRows W v xss) => specTIn_any W v xss hW)
    have HDT := Lib.hid (fun W (hW : IntRows W v xss) (hT : Tab W) => implTDet_any W v xss hW hT)
    have HPM := Lib.hid (fun W (hW : IntRows W v xss) (hT : Tab W) => implTPerm_any W v xss hW hT)
    have hpar := det_par xss
    have hbd := det_bound xss
    obtain ⟨a, ha⟩ : ∃ a, detOf xss = a := ⟨_, rfl⟩
    obtain ⟨b, hb⟩ : ∃ b, permOf xss = b := ⟨_, rfl⟩
    rw [ha, hb] at hpar hbd
    rw [ha] at HDT
    rw [hb] at HPM
    have HR := Lib.hid hi
    have HB1 := Lib.hid hb1
    clear hi hb1 ha hb
    obtain ⟨A', cap', rfl, -, -⟩ := HR.out.at
    cases ht : tIn xss with
    | false =>
      rw [ht] at HI HS
      clear hpar hbd ht
      go_wp2_with fail
      refine HI.out.mono ?_
      rintro e w2 ⟨rfl, hb2⟩
      go_wp2_with fail
      refine (HS.out _ (HR.out.below hb2)).mono ?_
      rintro e w3 ⟨rfl, q3, rfl⟩
      go_wp2
      go_ret
      exact ⟨rfl, below_drewN (step_below HB1.out hb2) _⟩
    | true =>
      rw [ht] at HI HS HDT HPM
      obtain ⟨c, hcc⟩ : ∃ c, a - b = c := ⟨_, rfl⟩
      have hcw := wrap_big c (by omega) (by omega)
      have hct : (c.tmod 2 == 0) = true := by
        rw [beq_iff_eq]
        rw [hcc] at hpar
        exact Int.tmod_eq_zero_of_dvd (Int.dvd_of_emod_eq_zero hpar)
      have hcm : (c % 2 == 0) = true := by rw [beq_iff_eq]; omega
      obtain ⟨hc1, hc2⟩ := hcw
      clear hpar hbd ht
      go_wp2_with fail
      refine HI.out.mono ?_
      rintro e w2 ⟨rfl, hb2⟩
      go_wp2_with fail
      refine (HS.out _ (HR.out.below hb2)).mono ?_
      rintro e w3 ⟨rfl, q3, rfl⟩
      have hB3 : Below w.heap.size w (w2.drewN q3) := below_drewN (step_below HB1.out hb2) _
      have hR3 : IntRows (w2.drewN q3) _ xss := (HR.out.below hb2).drewN q3
      go_wp2_with fail
      refine (HDT.out _ hR3 (HT.out.later hB3)).mono ?_
      rintro e w4 ⟨rfl, hb4⟩
      go_wp2_with fail
      refine (HPM.out _ (hR3.below hb4) (HT.out.later (step_below hB3 hb4))).mono ?_
      rintro e w5 ⟨rfl, hb5⟩
      have HF := Lib.hid (step_below (step_below hB3 hb4) hb5)
      clear hB3 hR3 hb4 hb5
      go_wp2
      go_ret
      exact ⟨rfl, HF.out⟩
  · have e1 : ((1048576 : Int) < (L : Int)) = True := by simp; omega
    go_enter Tryd.func7, Tryd.ntmps7
    go_wp2
    go_ret
    exact ⟨rfl, Below.refl _ _⟩

end Go.Proofs.YtjhjfopokiaiiaaDoor
