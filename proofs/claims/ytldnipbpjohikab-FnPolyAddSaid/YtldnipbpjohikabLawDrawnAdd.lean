/-
  The drawn law FnPolyAdd: both ways, and the value at 2.
-/
import Derived.Test.YtldnipbpjohikabLawDrawn
namespace Go.Proofs.Ytldnipbpjohikab
open Go.RowKit

theorem timesOk_comm (p q : List Int) : timesOk p q = timesOk q p := by
  unfold timesOk
  rw [Nat.add_comm p.length]
  cases okPoly p <;> cases okPoly q <;> cases within 100000 p <;> cases within 100000 q <;> simp
theorem atOk_parts {p : List Int} {x : Int} (h : atOk p x = true) : okPoly p = true ∧ within 100000 p = true ∧ p.length ≤ 9 := by
  rw [atOk_of] at h
  simp only [Bool.and_eq_true, decide_eq_true_eq] at h
  exact ⟨h.1.1.1, h.1.1.2, h.1.2⟩
theorem atVal_yes {p : List Int} {x : Int} (h : atOk p x = true) : atVal p x = horner x p := by unfold atVal; rw [if_pos h]

set_option maxRecDepth 100000 in
set_option maxHeartbeats 8000000 in
theorem FnPolyAdd_final (w : World) (A : Option Addr) (L cap : Nat) (hc : L ≤ cap) (hm : L ≤ maxLen) (hx : Code8 w A L) :
    Calls Try.prog 4 #[.slice A L cap] w fun e w' => e = .returned (.bool true) ∧ Below w.heap.size w w' := by
  have HD := Lib.hid (drawAdd_any w A L cap hc hm hx)
  unfold maxLen at hm
  clear hx
  by_cases hbig : L ≤ 1048576
  · have e1 : ((1048576 : Int) < (L : Int)) = False := by simp; omega
    go_enter Try.func4, Try.ntmps4
    go_wp2_with fail
    refine HD.out.mono ?_
    rintro e w1 ⟨v, u, p, q, rfl, lp, lq, hp, hq, hb1⟩
    have HP := Lib.hid hp
    have HQ := Lib.hid hq
    have hI := fun W (h1 : Ints W v p) (h2 : Ints W u q) => implAdd_any W v u p q h1 h2
    have hS := fun W (h1 : Ints W v p) (h2 : Ints W u q) => specAdd_any W v u p q h1 h2
    have hI2 := fun W (h1 : Ints W v p) (h2 : Ints W u q) => implAdd_any W u v q p h2 h1
    clear hp hq
    cases hk : madeOk (okPoly p && okPoly q) (trim (addL p q)) with
    | false =>
      obtain ⟨ys, hys⟩ : ∃ ys, madeList (okPoly p && okPoly q) (trim (addL p q)) = ys := ⟨_, rfl⟩
      rw [hk, hys] at hI hS
      have HI := Lib.hid hI
      have HS := Lib.hid hS
      clear hI hS hI2 hk hys
      go_wp2_with fail
      refine (HI.out w1 HP.out HQ.out).mono ?_
      rintro e w2 ⟨g0, rfl, hb2, ho2⟩
      go_wp2_with fail
      refine (HS.out w2 (HP.out.below hb2) (HQ.out.below hb2)).mono ?_
      rintro e w3 ⟨s0, rfl, hb3, ho3⟩
      have hi2 := (ints_of_owns ho2).below hb3
      have hi3 := ints_of_owns ho3
      go_wp2_with fail
      refine (sameInts_same _ _ _ ys hi2 hi3).mono ?_
      rintro e w4 ⟨rfl, n1, rfl⟩
      go_wp2_with fail
      refine (sameInts_same _ _ _ ys (hi2.drewN _) (hi3.drewN _)).mono ?_
      rintro e w5 ⟨rfl, n2, rfl⟩
      go_wp2
      go_ret
      exact ⟨rfl, below_drewN (step_below (step_below hb1 hb2) hb3) _⟩
    | true =>
      have hlist := madeList_of hk
      have hcnd := (madeOk_both hk).1
      have hokt := (madeOk_both hk).2
      have hcnd2 : (okPoly q && okPoly p) = true := by rw [Bool.and_comm]; exact hcnd
      have hcomm : trim (addL q p) = trim (addL p q) := trim_addL_comm q p
      have hk2 : madeOk (okPoly q && okPoly p) (trim (addL q p)) = true := by rw [hcomm]; unfold madeOk; rw [hcnd2, hokt]; rfl
      have hlist2 := madeList_of hk2
      rw [hcomm] at hlist2 hk2
      rw [hcomm] at hI2
      obtain ⟨s, hs⟩ : ∃ s, trim (addL p q) = s := ⟨_, rfl⟩
      rw [hk, hlist, hs] at hI hS
      rw [hk2, hlist2, hs] at hI2
      have heq : atOk s (2) = true → atOk p (2) = true → atOk q (2) = true → atVal s 2 = atVal p 2 + atVal q 2 ∧ IntKind.i64.wrap (atVal p 2 + atVal q 2) = atVal p 2 + atVal q 2 ∧ wrap64 (atVal p 2 + atVal q 2) = atVal p 2 + atVal q 2 := by
        intro h1 h2 h3
        rw [atVal_yes h1, atVal_yes h2, atVal_yes h3, ← hs, horner_trim]
        obtain ⟨_, w2, _⟩ := atOk_parts h2
        obtain ⟨_, w3, _⟩ := atOk_parts h3
        have k2 := horner_lim (x := 2) (by omega) w2 (k := 0) (by omega)
        have k3 := horner_lim (x := 2) (by omega) w3 (k := 0) (by omega)
        rw [List.drop_zero] at k2 k3
        exact ⟨horner_addL 2 p q, wrap_in _ (by omega) (by omega)⟩
      have HI := Lib.hid hI
      have HS := Lib.hid hS
      have HI2 := Lib.hid hI2
      have HE := Lib.hid heq
      clear hI hS hI2 hk hlist hcnd hokt hcnd2 hcomm hk2 hlist2 hs heq
      go_wp2_with fail
      refine (HI.out w1 HP.out HQ.out).mono ?_
      rintro e w2 ⟨g0, rfl, hb2, ho2⟩
      go_wp2_with fail
      refine (HS.out w2 (HP.out.below hb2) (HQ.out.below hb2)).mono ?_
      rintro e w3 ⟨s0, rfl, hb3, ho3⟩
      have hi2 := (ints_of_owns ho2).below hb3
      have hi3 := ints_of_owns ho3
      have hb3' := step_below (step_below hb1 hb2) hb3
      have HP3 := Lib.hid ((HP.out.below hb2).below hb3)
      have HQ3 := Lib.hid ((HQ.out.below hb2).below hb3)
      go_wp2_with fail
      refine (sameInts_same _ _ _ s hi2 hi3).mono ?_
      rintro e w4 ⟨rfl, n1, rfl⟩
      have hb4' := below_drewN hb3' n1
      go_wp2_with fail
      refine (HI2.out (w3.drewN n1) (HP3.out.drewN n1) (HQ3.out.drewN n1)).mono ?_
      rintro e w5 ⟨x0, rfl, hb5, ho5⟩
      have hb5' : Below w.heap.size w w5 := step_below hb4' hb5
      have HP5 := Lib.hid ((HP3.out.drewN n1).below hb5)
      have HQ5 := Lib.hid ((HQ3.out.drewN n1).below hb5)
      have hi5 := (hi2.drewN n1).below hb5
      have hx5 := ints_of_owns ho5
      have hat := fun W z zs (h : Ints W z zs) => implAt_any W z zs (2) h
      have HAT := Lib.hid hat
      clear hat hi2 hi3 ho2 ho3 ho5
      obtain ⟨b1, hb1e⟩ : ∃ b, atOk s (2) = b := ⟨_, rfl⟩
      obtain ⟨b2, hb2e⟩ : ∃ b, atOk p (2) = b := ⟨_, rfl⟩
      obtain ⟨b3, hb3e⟩ : ∃ b, atOk q (2) = b := ⟨_, rfl⟩
      obtain ⟨c1, hc1e⟩ : ∃ b, atVal s (2) = b := ⟨_, rfl⟩
      obtain ⟨c2, hc2e⟩ : ∃ b, atVal p (2) = b := ⟨_, rfl⟩
      obtain ⟨c3, hc3e⟩ : ∃ b, atVal q (2) = b := ⟨_, rfl⟩
      have HA1 := Lib.hid (show ∀ W z, Ints W z s → _ from fun W z h => hc1e ▸ hb1e ▸ HAT.out W z s h)
      have HA2 := Lib.hid (show ∀ W z, Ints W z p → _ from fun W z h => hc2e ▸ hb2e ▸ HAT.out W z p h)
      have HA3 := Lib.hid (show ∀ W z, Ints W z q → _ from fun W z h => hc3e ▸ hb3e ▸ HAT.out W z q h)
      rw [hb1e, hb2e, hb3e, hc1e, hc2e, hc3e] at HE
      clear hb1e hb2e hb3e hc1e hc2e hc3e HAT
      have HI5 := Lib.hid hi5
      have HX5 := Lib.hid hx5
      clear hi5 hx5
      go_wp2_with fail
      refine (HA1.out w5 _ HI5.out).mono ?_
      rintro e w6 ⟨rfl, hb6⟩
      go_wp2_with fail
      refine (HA2.out w6 _ (HP5.out.below hb6)).mono ?_
      rintro e w7 ⟨rfl, hb7⟩
      go_wp2_with fail
      refine (HA3.out w7 _ ((HQ5.out.below hb6).below hb7)).mono ?_
      rintro e w8 ⟨rfl, hb8⟩
      have hb8' := step_below (step_below (step_below hb5' hb6) hb7) hb8
      have hx8 := ((HX5.out.below hb6).below hb7).below hb8
      have hi8 := ((HI5.out.below hb6).below hb7).below hb8
      go_wp2_with fail
      refine (sameInts_same _ _ _ s hx8 hi8).mono ?_
      rintro e w9 ⟨rfl, n2, rfl⟩
      have hb9' := below_drewN hb8' n2
      cases b1 with
      | false => go_wp2; go_ret; exact ⟨rfl, hb9'⟩
      | true =>
        cases b2 with
        | false => go_wp2; go_ret; exact ⟨rfl, hb9'⟩
        | true =>
          cases b3 with
          | false => go_wp2; go_ret; exact ⟨rfl, hb9'⟩
          | true =>
            obtain ⟨hval, hw1, hw2⟩ := HE.out rfl rfl rfl
            have hT : (c1 == c2 + c3) = true := by rw [hval]; exact beq_self_eq_true _
            clear hval
            go_wp2
            go_ret
            exact ⟨rfl, hb9'⟩
  · have e1 : ((1048576 : Int) < (L : Int)) = True := by simp; omega
    go_enter Try.func4, Try.ntmps4
    go_wp2
    go_ret
    exact ⟨rfl, Below.refl _ _⟩

end Go.Proofs.Ytldnipbpjohikab
