/-
  FnHermite: full graphs have their polynomials.
-/
import Derived.Test.YtcklinoiaiilgabDoorTwelve
import Derived.Test.YtcklinoiaiilgabDoorSame
import Derived.Test.YtcklinoiaiilgabDoorFull
import Derived.Test.YtcklinoiaiilgabDoorSpecSeries
import Derived.Test.YtcklinoiaiilgabDoorPMatch
namespace Go.Proofs.YtcklinoiaiilgabDoor
set_option linter.unusedVariables false
set_option linter.unusedSimpArgs false
open Go.RowKit
set_option maxRecDepth 100000

set_option maxRecDepth 100000 in
set_option maxHeartbeats 400000 in
theorem drawHerm_any (w : World) (A : Option Addr) (L cap : Nat) (hc : L ≤ cap) (hm : L ≤ maxLen) (hx : Code8 w A L) :
    Calls Tryd.prog 15 #[.slice A L cap] w fun e w' => ∃ v : Int, -1 ≤ v ∧ v ≤ 13 ∧ e = .returned (.int .i64 v) ∧ Below w.heap.size w w' := by
  have HO := Lib.hid (twelve_any w A L cap hc hm hx)
  clear hx hm hc
  go_enter Tryd.func15, Tryd.ntmps15
  go_wp2_with (go_at_call 61; refine HO.out.mono ?_; rintro e w1 ⟨v, hv, hv2, rfl, hb1⟩)
  go_ret
  exact ⟨v, hv, hv2, rfl, hb1⟩

/-- The derivative. -/
def dP (n : Nat) : List Int := trim (derL (fullP n))
theorem herm_der : ∀ n : Fin 13, madeOk (okPoly (fullP n.val)) (trim (derL (fullP n.val))) = true ∧ madeList (okPoly (fullP n.val)) (trim (derL (fullP n.val))) = dP n.val := by decide +kernel
theorem herm_times : ∀ n : Fin 13, 1 ≤ n.val → madeOk (timesOk (fullP (n.val - 1)) [(n.val : Int)]) (trim (mulL (fullP (n.val - 1)) [(n.val : Int)])) = true ∧ madeList (timesOk (fullP (n.val - 1)) [(n.val : Int)]) (trim (mulL (fullP (n.val - 1)) [(n.val : Int)])) = dP n.val := by decide +kernel
theorem herm_mp : ∀ n : Fin 9, 1 ≤ n.val → gIn (glist n.val (fullOf n.val)) = true ∧ mpOf (glist n.val (fullOf n.val)) = fullP n.val ∧ (glist n.val (fullOf n.val)).all (fun x => decide (-9223372036854775808 ≤ x ∧ x ≤ 9223372036854775807)) = true := by decide +kernel
theorem herm_zero : fullP 0 = [1] := by decide +kernel
theorem full_is {n : Nat} (h1 : 1 ≤ n) (h8 : n ≤ 8) : ∃ xs : List Int, glist n (fullOf n) = xs ∧ gIn xs = true ∧ (∀ x ∈ xs, I64 x) ∧ mpOf xs = fullP n := by
  obtain ⟨g1, g2, g3⟩ := herm_mp ⟨n, by omega⟩ h1
  exact ⟨_, rfl, g1, fun x hx => by simpa [I64] using List.all_eq_true.1 g3 x hx, g2⟩
theorem ints_lit (w : World) (x : Int) : Ints (w.alloc (.cells #[Value.int .i64 x] 3)) (.slice (some ⟨w.heap.size, 0, none⟩) 1 1) [x] := by
  have := World.ownsRow_lit (base := w.heap.size) (e := 3) (size := 1) w #[.int .i64 x] 1 (Nat.le_refl _) (by simp [maxLen]) rfl
  exact ints_of_owns this
theorem lit_below (w : World) (x : Int) : Below w.heap.size w (w.alloc (.cells #[Value.int .i64 x] 3)) := (Below.refl _ _).alloc (Nat.le_refl _) _

set_option maxHeartbeats 4000000 in
theorem FnHermite_final (w : World) (A : Option Addr) (L cap : Nat) (hc : L ≤ cap) (hm : L ≤ maxLen) (hx : Code8 w A L) (hT : Tab w) :
    Calls Tryd.prog 3 #[.slice A L cap] w fun e w' => e = .returned (.bool true) ∧ Below w.heap.size w w' := by
  have HD := Lib.hid (drawHerm_any w A L cap hc hm hx)
  have HT := Lib.hid hT
  unfold maxLen at hm
  clear hx hT
  by_cases hbig : L ≤ 1048576
  · have e1 : ((1048576 : Int) < (L : Int)) = False := by simp; omega
    go_enter Tryd.func3, Tryd.ntmps3
    go_wp2_with fail
    refine HD.out.mono ?_
    rintro e w1 ⟨v, hv1, hv2, rfl, hb1⟩
    by_cases h : v < 0 ∨ 12 < v
    · have HR := Lib.hid (fun W => implHerm_no v (by omega) W)
      have HS := Lib.hid (fun W => specHerm_no v (by omega) W)
      clear h
      go_wp2_with fail
      refine (HR.out _).mono ?_
      rintro e w2 ⟨g0, rfl, hb2, ho2⟩
      go_wp2_with fail
      refine (HS.out _).mono ?_
      rintro e w3 ⟨s0, rfl, hb3, ho3⟩
      go_wp2_with fail
      refine (sameInts_same _ _ _ [] ((ints_of_owns ho2).below hb3) (ints_of_owns ho3)).mono ?_
      rintro e w4 ⟨rfl, q, rfl⟩
      go_wp2_with fail
      refine (sameInts_same _ _ _ [] (((ints_of_owns ho2).below hb3).drewN _) ((ints_of_owns ho3).drewN _)).mono ?_
      rintro e w5 ⟨rfl, q2, rfl⟩
      go_wp2
      go_ret
      exact ⟨rfl, below_drewN (step_below (step_below hb1 hb2) hb3) _⟩
    · obtain ⟨n, rfl⟩ : ∃ n : Nat, v = (n : Int) := ⟨v.toNat, by omega⟩
      have hn : n ≤ 12 := by omega
      have hn12 : (n : Int) ≤ 12 := by omega
      have HR := Lib.hid (fun W => implHerm_yes n hn W)
      have HS := Lib.hid (fun W => specHerm_yes n hn W)
      have hde := fun W u (hu : Ints W u (fullP n)) => implDerive_any W u (fullP n) hu
      obtain ⟨d1, d2⟩ := herm_der ⟨n, by omega⟩
      simp only at d1 d2
      rw [d1, d2] at hde
      have HDE := Lib.hid hde
      clear h d1 d2 hde
      go_wp2_with fail
      refine (HR.out _).mono ?_
      rintro e w2 ⟨g0, rfl, hb2, ho2⟩
      go_wp2_with fail
      refine (HS.out _).mono ?_
      rintro e w3 ⟨s0, rfl, hb3, ho3⟩
      have HB3 := Lib.hid (step_below (step_below hb1 hb2) hb3)
      have HG3 := Lib.hid ((ints_of_owns ho2).below hb3)
      have HS3 := Lib.hid (ints_of_owns ho3)
      clear hb1 hb2 hb3 ho2 ho3
      go_wp2_with fail
      refine (sameInts_same _ _ _ (fullP n) HG3.out HS3.out).mono ?_
      rintro e w4 ⟨rfl, q, rfl⟩
      go_wp2_with fail
      refine (HDE.out _ _ (HG3.out.drewN q)).mono ?_
      rintro e w5 ⟨d0, rfl, hb5, ho5⟩
      have HB5 := Lib.hid (step_below (below_drewN HB3.out q) hb5)
      have HG5 := Lib.hid ((HG3.out.drewN q).below hb5)
      have HD5 := Lib.hid (ints_of_owns ho5)
      clear hb5 ho5
      by_cases h0 : n = 0
      · subst h0
        have hl := ints_lit w5 1
        have hg6 := HG5.out.below (lit_below w5 1)
        rw [herm_zero] at hg6
        have HL := Lib.hid hl
        have HG6 := Lib.hid hg6
        have HB6 := Lib.hid (step_below HB5.out (lit_below w5 1))
        clear hl hg6
        go_wp2_with fail
        refine (sameInts_same _ _ _ [1] HG6.out HL.out).mono ?_
        rintro e w6 ⟨rfl, q2, rfl⟩
        go_wp2
        go_ret
        exact ⟨rfl, below_drewN HB6.out q2⟩
      · have hn1 : 1 ≤ n := by omega
        have hlo : ¬ (n : Int) < 1 := by omega
        have e2 : ((n - 1 : Nat) : Int) = (n : Int) - 1 := by omega
        have hr2 := fun W => implHerm_yes (n - 1) (by omega) W
        rw [e2] at hr2
        have HR2 := Lib.hid hr2
        obtain ⟨t1, t2⟩ := herm_times ⟨n, by omega⟩ hn1
        simp only at t1 t2
        have htm := fun W u z (hu : Ints W u (fullP (n - 1))) (hz : Ints W z [(n : Int)]) => implTimes_any W u z (fullP (n - 1)) [(n : Int)] hu hz
        rw [t1, t2] at htm
        have HTM := Lib.hid htm
        clear h0 e2 hr2 t1 t2 htm
        go_wp2_with fail
        refine (HR2.out _).mono ?_
        rintro e w6 ⟨a0, rfl, hb6, ho6⟩
        have HL := Lib.hid (ints_lit w6 (n : Int))
        have HB7 := Lib.hid (step_below (step_below HB5.out hb6) (lit_below w6 (n : Int)))
        have HA7 := Lib.hid ((ints_of_owns ho6).below (lit_below w6 (n : Int)))
        have HG7 := Lib.hid ((HG5.out.below hb6).below (lit_below w6 (n : Int)))
        have HD7 := Lib.hid ((HD5.out.below hb6).below (lit_below w6 (n : Int)))
        clear hb6 ho6
        go_wp2_with fail
        refine (HTM.out _ _ _ HA7.out HL.out).mono ?_
        rintro e w8 ⟨b0, rfl, hb8, ho8⟩
        have HB8 := Lib.hid (step_below HB7.out hb8)
        have HG8 := Lib.hid (HG7.out.below hb8)
        have HD8 := Lib.hid (HD7.out.below hb8)
        have HT8 := Lib.hid (ints_of_owns ho8)
        clear hb8 ho8
        by_cases h8 : 8 < n
        · have s2 : (8 : Int) < (n : Int) := by omega
          clear h8
          go_wp2_with fail
          refine (sameInts_same _ _ _ (dP n) HD8.out HT8.out).mono ?_
          rintro e w9 ⟨rfl, q2, rfl⟩
          go_wp2
          go_ret
          exact ⟨rfl, below_drewN HB8.out q2⟩
        · have hn8 : n ≤ 8 := by omega
          have s2 : ¬ (8 : Int) < (n : Int) := by omega
          have HW := Lib.hid (fun W => full_yes n hn1 hn8 W)
          obtain ⟨xs, hxs, hgi, hI, hmp⟩ := full_is hn1 hn8
          rw [hxs] at HW
          have hpm := fun W u (hu : Ints W u xs) (hTW : Tab W) => implPMatch_any W u xs hu hI hTW
          rw [hgi, hmp] at hpm
          have HPM := Lib.hid hpm
          clear h8 hxs hgi hI hmp hpm
          go_wp2_with fail
          refine (HW.out _).mono ?_
          rintro e w9 ⟨c0, rfl, hb9, ho9⟩
          have HB9 := Lib.hid (step_below HB8.out hb9)
          have HG9 := Lib.hid (HG8.out.below hb9)
          have HD9 := Lib.hid (HD8.out.below hb9)
          have HT9 := Lib.hid (HT8.out.below hb9)
          have HC9 := Lib.hid (ints_of_owns ho9)
          clear hb9 ho9
          go_wp2_with fail
          refine (HPM.out _ _ HC9.out (HT.out.later HB9.out)).mono ?_
          rintro e w10 ⟨y0, rfl, hb10, ho10⟩
          have HB10 := Lib.hid (step_below HB9.out hb10)
          have HG10 := Lib.hid (HG9.out.below hb10)
          have HD10 := Lib.hid (HD9.out.below hb10)
          have HT10 := Lib.hid (HT9.out.below hb10)
          have HY10 := Lib.hid (ints_of_owns ho10)
          clear hb10 ho10
          go_wp2_with fail
          refine (sameInts_same _ _ _ (dP n) HD10.out HT10.out).mono ?_
          rintro e w11 ⟨rfl, q2, rfl⟩
          go_wp2_with fail
          refine (sameInts_same _ _ _ (fullP n) (HY10.out.drewN q2) (HG10.out.drewN q2)).mono ?_
          rintro e w12 ⟨rfl, q3, rfl⟩
          go_wp2
          go_ret
          exact ⟨rfl, below_drewN HB10.out _⟩
  · have e1 : ((1048576 : Int) < (L : Int)) = True := by simp; omega
    go_enter Tryd.func3, Tryd.ntmps3
    go_wp2
    go_ret
    exact ⟨rfl, Below.refl _ _⟩

end Go.Proofs.YtcklinoiaiilgabDoor
