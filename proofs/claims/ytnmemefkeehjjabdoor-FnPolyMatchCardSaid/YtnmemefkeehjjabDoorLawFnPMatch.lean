/-
  FnPolyMatch: derivatives are sums over nodes taken out.
-/
import Derived.Test.YtnmemefkeehjjabDoorDraw1
import Derived.Test.YtnmemefkeehjjabDoorDerPoly
import Derived.Test.YtnmemefkeehjjabDoorPMatch
import Derived.Test.YtnmemefkeehjjabDoorSpecPMatch
import Derived.Test.YtnmemefkeehjjabDoorWithoutAny
import Derived.Test.YtnmemefkeehjjabDoorSame
namespace Go.Proofs.YtnmemefkeehjjabDoor
set_option linter.unusedVariables false
set_option linter.unusedSimpArgs false
open Go.RowKit

set_option maxRecDepth 100000 in
set_option maxHeartbeats 400000 in
theorem DrawPolyMatch_some (w : World) (A : Option Addr) (L cap : Nat) (hc : L ≤ cap) (hm : L ≤ maxLen) (hx : Code8 w A L) :
    Calls Tryd.prog 7 #[.slice A L cap] w (GivesList w 7) := by
  have HO := Lib.hid (some_any w A L cap hc hm hx)
  clear hx hm hc
  go_enter Tryd.func7, Tryd.ntmps7
  go_wp2_with fail
  refine HO.out.mono ?_
  rintro e w1 ⟨G, xs, rfl, h1, h7, hI, hb1, hi⟩
  have HH := Lib.hid (And.intro hI (And.intro hb1 hi))
  clear hI hb1 hi
  go_wp2
  go_ret
  exact ⟨G, xs, rfl, h1, h7, HH.out.1, HH.out.2.1, HH.out.2.2⟩

theorem pm_nil (w : World) : Ints (w.alloc (.cells #[] 3)) (.slice (some ⟨w.heap.size, 0, none⟩) 0 0) [] := ints_of_owns (owns_empty w w.heap.size (Nat.le_refl _))
theorem pm_two (w : World) (x y : Int) : Ints (w.alloc (.cells #[.int .i64 x, .int .i64 y] 3)) (.slice (some ⟨w.heap.size, 0, none⟩) 2 2) [x, y] := by
  have := World.ownsRow_lit (base := w.heap.size) (e := 3) (size := 1) w #[.int .i64 x, .int .i64 y] 2 (Nat.le_refl _) (by simp [maxLen]) rfl
  exact ints_of_owns this
theorem pm_below (w : World) (o : Obj) : Below w.heap.size w (w.alloc o) := (Below.refl _ _).alloc (Nat.le_refl _) _
theorem mp_one {xs : List Int} (hg : gIn xs = true) (h : xs.length = 1) : mpOf xs = [0, 1] := by
  unfold mpOf mpL
  rw [if_pos hg, h]
  have h0 : nums (gfun xs) (2 ^ 1 - 1) 0 = 1 := nums_none' (by decide)
  show [polyAt 1 _ 0, polyAt 1 _ 1] = _
  unfold polyAt
  simp [h0]

/-- One round of the law: the graph without a node has its polynomial, and the sum goes on. -/
structure PmRound (xs : List Int) (k : Nat) (ys a s s2 : List Int) : Prop where
  ok : outOk xs (k : Int) = true
  out : outOf xs (k : Int) = ys
  gin : gIn ys = true
  i64 : ∀ x ∈ ys, I64 x
  mp : mpOf ys = a
  sum : derSum xs.length (gfun xs) k = s
  oks : okPoly s = true
  oka : okPoly a = true
  add : trim (addL s a) = s2
  ok2 : okPoly s2 = true
  next : derSum xs.length (gfun xs) (k + 1) = s2
theorem pm_round {xs : List Int} {k : Nat} (hg : gIn xs = true) (h2 : 2 ≤ xs.length) (hk : k < xs.length) : ∃ ys a s s2, PmRound xs k ys a s s2 := by
  obtain ⟨h1, h8, hok⟩ := gIn_parts hg
  obtain ⟨o1, o2, o3, o4, o5⟩ := out_facts hg h2 hk
  have ha : mpOf (outOf xs (k : Int)) = mpL (xs.length - 1) (nums (gfun xs) (wo (2 ^ xs.length - 1) k)) := by
    unfold mpOf
    rw [if_pos o3, o2]
    congr 1
    exact funext o5
  have hs := wo_256 (v := k) (all256 h8)
  refine ⟨_, _, _, _, o1, rfl, o3, o4, rfl, rfl, derSum_ok h8 (by omega), ?_, rfl, ?_, ?_⟩
  · rw [ha]; exact (mpL_ok (by omega) (fun k => nums_small hs k) (nums_none' hs)).1
  · rw [ha, derSum_succ h2]; exact derSum_ok h8 (by omega)
  · rw [ha, derSum_succ h2]

set_option maxRecDepth 100000 in
set_option maxHeartbeats 4000000 in
theorem FnPolyMatch_final (w : World) (A : Option Addr) (L cap : Nat) (hc : L ≤ cap) (hm : L ≤ maxLen) (hx : Code8 w A L) (hT : Tab w) :
    Calls Tryd.prog 3 #[.slice A L cap] w fun e w' => e = .returned (.bool true) ∧ Below w.heap.size w w' := by
  have HD := Lib.hid (DrawPolyMatch_some w A L cap hc hm hx)
  have HT := Lib.hid hT
  unfold maxLen at hm
  clear hx hT
  by_cases hbig : L ≤ 1048576
  · have e1 : ((1048576 : Int) < (L : Int)) = False := by simp; omega
    go_enter Tryd.func3, Tryd.ntmps3
    go_wp2_with fail
    refine HD.out.mono ?_
    rintro e w1 ⟨G, xs, rfl, h1, h7, hI, hb1, hi⟩
    have HI := Lib.hid hi
    have HB1 := Lib.hid hb1
    have HII := Lib.hid hI
    clear hI hi hb1
    have hS := implPMatch_any w1 _ xs HI.out HII.out (HT.out.later HB1.out)
    have HP := Lib.hid (fun W (hW : Ints W (.slice (some ⟨G, 0, none⟩) xs.length xs.length) xs) => specPMatch_any W _ xs hW)
    obtain ⟨E, hE⟩ : ∃ E, mpOf xs = E := ⟨_, rfl⟩
    rw [hE] at hS HP
    cases hg : gIn xs with
    | false =>
      rw [hg] at hS HP
      have HS := Lib.hid hS
      clear hS hg hE
      go_wp2_with fail
      refine HS.out.mono ?_
      rintro e w2 ⟨g0, rfl, hb2, ho2⟩
      go_wp2_with fail
      refine (HP.out _ (HI.out.below hb2)).mono ?_
      rintro e w3 ⟨s0, rfl, hb3, ho3⟩
      have HBB := Lib.hid (step_below (step_below HB1.out hb2) hb3)
      have HY1 := Lib.hid ((ints_of_owns ho2).below hb3)
      have HY2 := Lib.hid (ints_of_owns ho3)
      clear hb2 hb3 ho2 ho3
      go_wp2_with fail
      refine (sameInts_same _ _ _ E HY1.out HY2.out).mono ?_
      rintro e w4 ⟨rfl, q, rfl⟩
      go_wp2_with fail
      refine (sameInts_same _ _ _ E (HY1.out.drewN q) (HY2.out.drewN q)).mono ?_
      rintro e w5 ⟨rfl, q2, rfl⟩
      go_wp2
      go_ret
      exact ⟨rfl, below_drewN HBB.out _⟩
    | true =>
      rw [hg] at hS HP
      have HS := Lib.hid hS
      have HG := Lib.hid hg
      have HEE := Lib.hid hE
      clear hS hg hE
      go_wp2_with fail
      refine HS.out.mono ?_
      rintro e w2 ⟨g0, rfl, hb2, ho2⟩
      go_wp2_with fail
      refine (HP.out _ (HI.out.below hb2)).mono ?_
      rintro e w3 ⟨s0, rfl, hb3, ho3⟩
      have HBB := Lib.hid (step_below (step_below HB1.out hb2) hb3)
      have HI3 := Lib.hid ((HI.out.below hb2).below hb3)
      have HY1 := Lib.hid ((ints_of_owns ho2).below hb3)
      have HY2 := Lib.hid (ints_of_owns ho3)
      clear hb2 hb3 ho2 ho3
      go_wp2_with fail
      refine (sameInts_same _ _ _ E HY1.out HY2.out).mono ?_
      rintro e w4 ⟨rfl, q, rfl⟩
      have HB4 := Lib.hid (below_drewN HBB.out q)
      have HI4 := Lib.hid (HI3.out.drewN q)
      have HY4 := Lib.hid (HY1.out.drewN q)
      obtain ⟨w5, hw5⟩ : ∃ w5, w3.drewN q = w5 := ⟨_, rfl⟩
      rw [hw5] at HB4 HI4 HY4
      rw [hw5]
      clear hw5
      by_cases h2 : xs.length < 2
      · have h2i : (xs.length : Int) < 2 := by omega
        have hone := mp_one HG.out (by omega)
        rw [HEE.out] at hone
        subst hone
        have HL := Lib.hid (pm_two w5 0 1)
        have hlb := pm_below w5 (.cells #[.int .i64 0, .int .i64 1] 3)
        have HB6 := Lib.hid (step_below HB4.out hlb)
        have HY6 := Lib.hid (HY4.out.below hlb)
        clear h2 hlb
        go_wp2_with fail
        refine (sameInts_same _ _ _ [0, 1] HY6.out HL.out).mono ?_
        rintro e w6 ⟨rfl, q2, rfl⟩
        go_wp2
        go_ret
        exact ⟨rfl, below_drewN HB6.out q2⟩
      · have h2i : ¬ (xs.length : Int) < 2 := by omega
        obtain ⟨_, h8, hoko⟩ := gIn_parts HG.out
        have hEo : okPoly E = true := by
          rw [← HEE.out]; unfold mpOf; rw [if_pos HG.out]
          exact (mpL_ok h8 (fun k => nums_small (all256 h8) k) (nums_none' (all256 h8))).1
        have hdE : trim (derL E) = derSum xs.length (gfun xs) xs.length := by
          rw [← HEE.out]; unfold mpOf; rw [if_pos HG.out]
          exact der_whole h8
        have hDE := fun W (u : Value) (hu : Ints W u E) => implDerive_any W u E hu
        unfold madeOk madeList toldList at hDE
        rw [hEo, hdE, derSum_ok h8 (Nat.le_refl _)] at hDE
        simp only [Bool.and_self, if_true] at hDE
        have HDE := Lib.hid hDE
        have HR := Lib.hid (fun k (hk : k < xs.length) => pm_round HG.out (by omega) hk)
        have hD0 := derSum_zero xs.length (gfun xs)
        obtain ⟨D, hDD⟩ : ∃ D : Nat → List Int, derSum xs.length (gfun xs) = D := ⟨_, rfl⟩
        rw [hDD] at HDE hD0
        have HDD := Lib.hid hDD
        have HD0 := Lib.hid hD0
        clear h2 hEo hdE hDE hoko hD0 hDD
        go_wp2_with fail
        refine (HDE.out _ _ HY4.out).mono ?_
        rintro e w6 ⟨d0, rfl, hb6, ho6⟩
        have hl6 := pm_below w6 (.cells #[] 3)
        have HN6 := Lib.hid (pm_nil w6)
        obtain ⟨w7, hw7⟩ : ∃ w7, w6.alloc (.cells #[] 3) = w7 := ⟨_, rfl⟩
        rw [hw7] at hl6 HN6
        have HB7 := Lib.hid (step_below (step_below HB4.out hb6) hl6)
        have HI7 := Lib.hid ((HI4.out.below hb6).below hl6)
        have HD7 := Lib.hid ((ints_of_owns ho6).below hl6)
        have HW7 := Lib.hid hw7
        clear hb6 ho6 hl6 hw7
        go_wp2
        go_loopw [10, 11] (fun s v wr => ∃ k : Nat, k ≤ xs.length ∧ v = .int .i64 k ∧ Ints wr s (D k) ∧ Below w7.heap.size w7 wr) (fun _ v _ => xs.length - (intOf v).toNat)
        case atStart => exact ⟨0, by omega, rfl, by rw [HD0.out, HW7.out]; exact HN6.out, by rw [HW7.out]; exact Below.refl _ _⟩
        case round =>
          obtain ⟨k, hk, rfl, hsum, hbr⟩ := hrel
          have HS := Lib.hid hsum
          have HBR := Lib.hid hbr
          have HBW := Lib.hid (step_below HB7.out hbr)
          have HIr := Lib.hid (HI7.out.below hbr)
          have HTr := Lib.hid (HT.out.later HBW.out)
          by_cases hlt : k < xs.length
          · obtain ⟨ys, a, s, s2, HX⟩ := HR.out k hlt
            have hW := implWithout_any wr _ xs (k : Int) HIr.out HII.out HTr.out
            rw [HX.ok, HX.out] at hW
            have hP := fun W (u : Value) (hu : Ints W u ys) (hTW : Tab W) => implPMatch_any W u ys hu HX.i64 hTW
            rw [HX.gin, HX.mp] at hP
            have hA := fun W u z (hu : Ints W u s) (hz : Ints W z a) => implAdd_any W u z s a hu hz
            unfold madeOk madeList toldList at hA
            rw [HX.oks, HX.oka, HX.add, HX.ok2] at hA
            simp only [Bool.and_self, if_true] at hA
            have hDk : D k = s := by rw [← HDD.out]; exact HX.sum
            have hDn : D (k + 1) = s2 := by rw [← HDD.out]; exact HX.next
            rw [hDk] at HS
            have HDN := Lib.hid hDn
            have HW := Lib.hid hW
            have HPP := Lib.hid hP
            have HA := Lib.hid hA
            have hki : (k : Int) < (xs.length : Int) := by omega
            clear HX hW hP hA hDk hDn hsum hbr
            go_wp2_with fail
            refine HW.out.mono ?_
            rintro e w8 ⟨y0, rfl, hb8, ho8⟩
            have HY8 := Lib.hid (ints_of_owns ho8)
            have HS8 := Lib.hid (HS.out.below hb8)
            have HB8 := Lib.hid (step_below HBR.out hb8)
            have HT8 := Lib.hid (HTr.out.later hb8)
            clear hb8 ho8
            go_wp2_with fail
            refine (HPP.out _ _ HY8.out HT8.out).mono ?_
            rintro e w9 ⟨a0, rfl, hb9, ho9⟩
            have HA9 := Lib.hid (ints_of_owns ho9)
            have HS9 := Lib.hid (HS8.out.below hb9)
            have HB9 := Lib.hid (step_below HB8.out hb9)
            clear hb9 ho9
            go_wp2_with fail
            refine (HA.out _ _ _ HS9.out HA9.out).mono ?_
            rintro e w10 ⟨b0, rfl, hb10, ho10⟩
            have HB10 := Lib.hid (step_below HB9.out hb10)
            have HN10 := Lib.hid (ints_of_owns ho10)
            clear hb10 ho10
            go_wp2
            go_roundw
            all_goals first | exact ⟨k + 1, by omega, by go_num, by rw [HDN.out]; exact HN10.out, HB10.out⟩ | (simp [intOf]; omega)
          · obtain rfl : k = xs.length := by omega
            have HDr := Lib.hid (HD7.out.below hbr)
            clear hsum hbr
            go_wp2_with fail
            refine (sameInts_same _ _ _ (D xs.length) HDr.out HS.out).mono ?_
            rintro e w8 ⟨rfl, q2, rfl⟩
            go_wp2
            go_ret
            exact ⟨rfl, below_drewN HBW.out q2⟩
  · have e1 : ((1048576 : Int) < (L : Int)) = True := by simp; omega
    go_enter Tryd.func3, Tryd.ntmps3
    go_wp2
    go_ret
    exact ⟨rfl, Below.refl _ _⟩

end Go.Proofs.YtnmemefkeehjjabDoor
