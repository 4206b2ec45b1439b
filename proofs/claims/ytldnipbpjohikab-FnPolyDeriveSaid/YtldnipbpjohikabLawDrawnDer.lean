/-
  The drawn law FnPolyDerive: the rule of products, at a square.
-/
import Derived.Test.YtldnipbpjohikabLawDrawn
namespace Go.Proofs.Ytldnipbpjohikab
open Go.RowKit

set_option maxRecDepth 100000 in
set_option maxHeartbeats 8000000 in
theorem FnPolyDerive_final (w : World) (A : Option Addr) (L cap : Nat) (hc : L ≤ cap) (hm : L ≤ maxLen) (hx : Code8 w A L) :
    Calls Try.prog 6 #[.slice A L cap] w fun e w' => e = .returned (.bool true) ∧ Below w.heap.size w w' := by
  have HD := Lib.hid (drawDerive_any w A L cap hc hm hx)
  unfold maxLen at hm
  clear hx
  by_cases hbig : L ≤ 1048576
  · have e1 : ((1048576 : Int) < (L : Int)) = False := by simp; omega
    go_enter Try.func6, Try.ntmps6
    go_wp2_with fail
    refine HD.out.mono ?_
    rintro e w1 ⟨v, p, rfl, lp, hp, hb1⟩
    have HP := Lib.hid hp
    have hI := fun W (h1 : Ints W v p) => implDerive_any W v p h1
    have hS := fun W (h1 : Ints W v p) => specDerive_any W v p h1
    clear hp
    cases hk : madeOk (okPoly p) (trim (derL p)) with
    | false =>
      obtain ⟨ys, hys⟩ : ∃ ys, madeList (okPoly p) (trim (derL p)) = ys := ⟨_, rfl⟩
      rw [hk, hys] at hI hS
      have HI := Lib.hid hI
      have HS := Lib.hid hS
      clear hI hS hk hys
      go_wp2_with fail
      refine (HI.out w1 HP.out).mono ?_
      rintro e w2 ⟨g0, rfl, hb2, ho2⟩
      go_wp2_with fail
      refine (HS.out w2 (HP.out.below hb2)).mono ?_
      rintro e w3 ⟨s0, rfl, hb3, ho3⟩
      have hi2 := (ints_of_owns ho2).below hb3
      have hi3 := ints_of_owns ho3
      go_wp2_with fail
      refine (sameInts_same _ _ _ ys hi2 hi3).mono ?_
      rintro e w4 ⟨rfl, n1, rfl⟩
      go_wp2_with fail
      refine (sameInts_same _ _ _ ys (hi2.drewN _) (hi3.drewN _)).mono ?_
      rintro e w5 ⟨rfl, n2, rfl⟩
      go_wp2
      go_ret
      exact ⟨rfl, below_drewN (step_below (step_below hb1 hb2) hb3) _⟩
    | true =>
      have hlist := madeList_of hk
      obtain ⟨o, ho⟩ : ∃ o, trim (derL p) = o := ⟨_, rfl⟩
      rw [hk, hlist, ho] at hI hS
      obtain ⟨u1, s, hus⟩ : ∃ u1 s, (madeOk (timesOk p p) (trim (mulL p p)) = u1 ∧ madeList (timesOk p p) (trim (mulL p p)) = s) := ⟨_, _, rfl, rfl⟩
      obtain ⟨u2, a, hua⟩ : ∃ u2 a, (madeOk (okPoly s) (trim (derL s)) = u2 ∧ madeList (okPoly s) (trim (derL s)) = a) := ⟨_, _, rfl, rfl⟩
      obtain ⟨u3, b, hub⟩ : ∃ u3 b, (madeOk (timesOk p o) (trim (mulL p o)) = u3 ∧ madeList (timesOk p o) (trim (mulL p o)) = b) := ⟨_, _, rfl, rfl⟩
      obtain ⟨u4, c, huc⟩ : ∃ u4 c, (madeOk (okPoly b && okPoly b) (trim (addL b b)) = u4 ∧ madeList (okPoly b && okPoly b) (trim (addL b b)) = c) := ⟨_, _, rfl, rfl⟩
      have heq : u1 = true → u2 = true → u3 = true → u4 = true → a = c := by
        rintro rfl rfl rfl rfl
        rw [← hua.2, ← huc.2, madeList_of hua.1, madeList_of huc.1, ← hus.2, ← hub.2, madeList_of hus.1, madeList_of hub.1, ← ho]
        exact rule_square p
      have h1 := fun W (h : Ints W v p) => implTimes_any W v v p p h h
      rw [hus.1, hus.2] at h1
      have h2 := fun W z (h : Ints W z s) => implDerive_any W z s h
      rw [hua.1, hua.2] at h2
      have h3 := fun W z (h : Ints W v p) (h' : Ints W z o) => implTimes_any W v z p o h h'
      rw [hub.1, hub.2] at h3
      have h4 := fun W z (h : Ints W z b) => implAdd_any W z z b b h h
      rw [huc.1, huc.2] at h4
      have HI := Lib.hid hI
      have HS := Lib.hid hS
      have HE := Lib.hid heq
      have H1 := Lib.hid h1
      have H2 := Lib.hid h2
      have H3 := Lib.hid h3
      have H4 := Lib.hid h4
      clear hI hS hk hlist ho hus hua hub huc heq h1 h2 h3 h4
      go_wp2_with fail
      refine (HI.out w1 HP.out).mono ?_
      rintro e w2 ⟨g0, rfl, hb2, ho2⟩
      go_wp2_with fail
      refine (HS.out w2 (HP.out.below hb2)).mono ?_
      rintro e w3 ⟨s0, rfl, hb3, ho3⟩
      have hi2 := (ints_of_owns ho2).below hb3
      have hi3 := ints_of_owns ho3
      have hb3' := step_below (step_below hb1 hb2) hb3
      have hp3 := (HP.out.below hb2).below hb3
      go_wp2_with fail
      refine (sameInts_same _ _ _ o hi2 hi3).mono ?_
      rintro e w4 ⟨rfl, n1, rfl⟩
      have hb4' := below_drewN hb3' n1
      have hi4 := hi2.drewN n1
      have hp4 := hp3.drewN n1
      clear hi2 hi3 hp3 ho2 ho3
      go_wp2_with fail
      refine (H1.out _ hp4).mono ?_
      rintro e w5 ⟨g1, rfl, hb5, ho5⟩
      have hb5' : Below w.heap.size w w5 := step_below hb4' hb5
      have hi5 := hi4.below hb5
      have hp5 := hp4.below hb5
      go_wp2_with fail
      refine (H2.out w5 _ (ints_of_owns ho5)).mono ?_
      rintro e w6 ⟨g2, rfl, hb6, ho6⟩
      have hb6' := step_below hb5' hb6
      have hi6 := hi5.below hb6
      have hp6 := hp5.below hb6
      go_wp2_with fail
      refine (H3.out w6 _ hp6 hi6).mono ?_
      rintro e w7 ⟨g3, rfl, hb7, ho7⟩
      have hb7' := step_below hb6' hb7
      have ha7 := (ints_of_owns ho6).below hb7
      go_wp2_with fail
      refine (H4.out w7 _ (ints_of_owns ho7)).mono ?_
      rintro e w8 ⟨g4, rfl, hb8, ho8⟩
      have hb8' := step_below hb7' hb8
      have ha8 := ha7.below hb8
      have hc8 := ints_of_owns ho8
      cases u1 with
      | false => go_wp2; go_ret; exact ⟨rfl, hb8'⟩
      | true =>
        cases u2 with
        | false => go_wp2; go_ret; exact ⟨rfl, hb8'⟩
        | true =>
          cases u3 with
          | false => go_wp2; go_ret; exact ⟨rfl, hb8'⟩
          | true =>
            cases u4 with
            | false => go_wp2; go_ret; exact ⟨rfl, hb8'⟩
            | true =>
              have hac := HE.out rfl rfl rfl rfl
              subst hac
              go_wp2_with fail
              refine (sameInts_same _ _ _ a ha8 hc8).mono ?_
              rintro e w9 ⟨rfl, n2, rfl⟩
              go_wp2
              go_ret
              exact ⟨rfl, below_drewN hb8' n2⟩
  · have e1 : ((1048576 : Int) < (L : Int)) = True := by simp; omega
    go_enter Try.func6, Try.ntmps6
    go_wp2
    go_ret
    exact ⟨rfl, Below.refl _ _⟩

end Go.Proofs.Ytldnipbpjohikab
