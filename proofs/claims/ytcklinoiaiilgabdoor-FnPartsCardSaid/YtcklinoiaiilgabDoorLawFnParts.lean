/-
  FnParts: parts have all nodes, and no edges between.
-/
import Derived.Test.YtcklinoiaiilgabDoorDrawSome
import Derived.Test.YtcklinoiaiilgabDoorPartsMath
import Derived.Test.YtcklinoiaiilgabDoorShr
import Derived.Test.YtcklinoiaiilgabDoorSym
import Derived.Test.YtcklinoiaiilgabDoorSpecPartsAny
import Derived.Test.YtcklinoiaiilgabDoorSame
namespace Go.Proofs.YtcklinoiaiilgabDoor
set_option linter.unusedVariables false
set_option linter.unusedSimpArgs false
open Go.RowKit

set_option maxRecDepth 100000 in
set_option maxHeartbeats 400000 in
theorem DrawGraphParts_some (w : World) (A : Option Addr) (L cap : Nat) (hc : L ≤ cap) (hm : L ≤ maxLen) (hx : Code8 w A L) :
    Calls Tryd.prog 34 #[.slice A L cap] w (GivesList w 7) := by
  have HO := Lib.hid (some_any w A L cap hc hm hx)
  clear hx hm hc
  go_enter Tryd.func34, Tryd.ntmps34
  go_wp2_with fail
  refine HO.out.mono ?_
  rintro e w1 ⟨G, xs, rfl, h1, h7, hI, hb1, hi⟩
  have HH := Lib.hid (And.intro hI (And.intro hb1 hi))
  clear hI hb1 hi
  go_wp2
  go_ret
  exact ⟨G, xs, rfl, h1, h7, HH.out.1, HH.out.2.1, HH.out.2.2⟩

set_option maxRecDepth 100000 in
set_option maxHeartbeats 4000000 in
theorem FnParts_final (w : World) (A : Option Addr) (L cap : Nat) (hc : L ≤ cap) (hm : L ≤ maxLen) (hx : Code8 w A L) (hT : Tab w) :
    Calls Tryd.prog 7 #[.slice A L cap] w fun e w' => e = .returned (.bool true) ∧ Below w.heap.size w w' := by
  have HD := Lib.hid (DrawGraphParts_some w A L cap hc hm hx)
  have HT := Lib.hid hT
  unfold maxLen at hm
  clear hx hT
  by_cases hbig : L ≤ 1048576
  · have e1 : ((1048576 : Int) < (L : Int)) = False := by simp; omega
    go_enter Tryd.func7, Tryd.ntmps7
    go_wp2_with fail
    refine HD.out.mono ?_
    rintro e w1 ⟨G, xs, rfl, h1, h7, hI, hb1, hi⟩
    have HI := Lib.hid hi
    have HB1 := Lib.hid hb1
    have HII := Lib.hid hI
    clear hI hi hb1
    have hS := implParts_any w1 _ xs HI.out HII.out (HT.out.later HB1.out)
    have HP := Lib.hid (fun W (hW : Ints W (.slice (some ⟨G, 0, none⟩) xs.length xs.length) xs) => specParts_any W _ xs hW)
    cases hg : gIn xs with
    | false =>
      obtain ⟨ys, hy⟩ : ∃ ys, partsOf xs = ys := ⟨_, rfl⟩
      rw [hg, hy] at hS HP
      have HS := Lib.hid hS
      clear hS hg hy
      go_wp2_with fail
      refine HS.out.mono ?_
      rintro e w2 ⟨g0, rfl, hb2, ho2⟩
      go_wp2_with fail
      refine (HP.out _ (HI.out.below hb2)).mono ?_
      rintro e w3 ⟨s0, rfl, hb3, ho3⟩
      have HBB := Lib.hid (step_below (step_below HB1.out hb2) hb3)
      have HY1 := Lib.hid ((ints_of_owns ho2).below hb3)
      have HY2 := Lib.hid (ints_of_owns ho3)
      clear hb2 hb3 ho2 ho3
      go_wp2_with fail
      refine (sameInts_same _ _ _ ys HY1.out HY2.out).mono ?_
      rintro e w4 ⟨rfl, q, rfl⟩
      go_wp2_with fail
      refine (sameInts_same _ _ _ ys (HY1.out.drewN q) (HY2.out.drewN q)).mono ?_
      rintro e w5 ⟨rfl, q2, rfl⟩
      go_wp2
      go_ret
      exact ⟨rfl, below_drewN HBB.out _⟩
    | true =>
      obtain ⟨_, h8, hoko⟩ := gIn_parts hg
      have hsy : SymF (gfun xs) := fun i j hij => gIn_both hg hij
      have hpg := parts_good (gfun_pow hoko) h8 hsy xs.length (Nat.le_refl _)
      have hpa := parts_all (gfun_pow hoko) h8
      have hpo : partsOf xs = (partsTo (gfun xs) xs.length xs.length).1.map (fun (r : Nat) => (r : Int)) := by unfold partsOf; rw [if_pos hg]
      have hrow : ∀ i (hi : i < xs.length), xs[i] = (gfun xs i : Int) ∧ gfun xs i < 256 := fun k hk => row_value h8 hoko hk
      have hpl := (parts_facts (gfun_pow hoko) h8 xs.length (Nat.le_refl _)).2.2.2.1
      obtain ⟨P, hPe⟩ : ∃ P, (partsTo (gfun xs) xs.length xs.length).1 = P := ⟨_, rfl⟩
      rw [hPe] at hpg hpa hpo hpl
      obtain ⟨ys, hy⟩ : ∃ ys, P.map (fun (r : Nat) => (r : Int)) = ys := ⟨_, rfl⟩
      rw [hy] at hpo
      have hyl : ys.length = P.length := by rw [← hy, List.length_map]
      have hyv : ∀ i (h : i < P.length) (h' : i < ys.length), ys[i] = ((P[i] : Nat) : Int) := fun i h h' => by simp [← hy]
      rw [hg, hpo] at hS HP
      have HS := Lib.hid hS
      have HPG := Lib.hid hpg
      have HPA := Lib.hid hpa
      have HRW := Lib.hid hrow
      have HYV := Lib.hid hyv
      have HYL := Lib.hid hyl
      have hol := fun i hi => orAll_lt hpg i hi
      have HOL := Lib.hid hol
      clear hS hg hy hpg hpa hpo hrow hPe hyv hsy hoko hol hyl
      go_wp2_with fail
      refine HS.out.mono ?_
      rintro e w2 ⟨g0, rfl, hb2, ho2⟩
      go_wp2_with fail
      refine (HP.out _ (HI.out.below hb2)).mono ?_
      rintro e w3 ⟨s0, rfl, hb3, ho3⟩
      have HBB := Lib.hid (step_below (step_below HB1.out hb2) hb3)
      have HI3 := Lib.hid ((HI.out.below hb2).below hb3)
      have HY1 := Lib.hid ((ints_of_owns ho2).below hb3)
      have HY2 := Lib.hid (ints_of_owns ho3)
      clear hb2 hb3 ho2 ho3
      go_wp2_with fail
      refine (sameInts_same _ _ _ ys HY1.out HY2.out).mono ?_
      rintro e w4 ⟨rfl, q, rfl⟩
      obtain ⟨A3, cap3, he3, hm3, hc3⟩ := HI3.out
      obtain ⟨rfl, rfl⟩ : A3 = some ⟨G, 0, none⟩ ∧ cap3 = xs.length := by simpa using he3.symm
      obtain ⟨A4, cap4, rfl, hm4, hc4⟩ := HY1.out
      rw [HYL.out]
      have HC3 := Lib.hid hc3
      have HC4 := Lib.hid hc4
      clear hc3 hc4 he3 hm3 hm4
      go_wp2
      go_loopw [8, 9, 10] (fun al i _ wr => ∃ k : Nat, k ≤ P.length ∧ i = .int .i64 k ∧ al = .int .i64 (orAll (P.take k) : Nat) ∧ ∃ q2, wr = w3.drewN q2) (fun _ i _ _ => P.length - (intOf i).toNat)
      case atStart => exact ⟨0, by omega, rfl, by simp [orAll], q, rfl⟩
      case round =>
        obtain ⟨k, hk, rfl, rfl, q2, rfl⟩ := hrel
        by_cases hlt : k < P.length
        · obtain ⟨hd1, hd2, hd3, hd4⟩ := HPG.out k hlt
          have hal := HOL.out k hk
          obtain ⟨b, off, rfl, hcell⟩ := HC4.out k (by rw [HYL.out]; exact hlt)
          rw [HYV.out k hlt (by rw [HYL.out]; exact hlt)] at hcell
          have hnx : orAll (P.take (k + 1)) = orAll (P.take k) ||| P[k] := by rw [List.take_succ_eq_append_getElem hlt, orAll_snoc]
          obtain ⟨r, hr⟩ : ∃ r, P[k] = r := ⟨_, rfl⟩
          obtain ⟨s, hs⟩ : ∃ s, orAll (P.take k) = s := ⟨_, rfl⟩
          rw [hs] at hd1 hal hnx ⊢
          rw [hr] at hd1 hd2 hd3 hd4 hcell hnx
          have hand : bits .and .i64 (s : Int) (r : Int) = 0 := by rw [and64 _ _ (by omega) (by omega), hd1]; rfl
          have hor : bits .or .i64 (s : Int) (r : Int) = ((s ||| r : Nat) : Int) := or64 _ _ (by omega) (by omega)
          have hr0 : ((r : Int) == 0) = false := by rw [beq_eq_false_iff_ne]; omega
          have hki : (k : Int) < (P.length : Int) := by omega
          have HNX := Lib.hid hnx
          have HD4 := Lib.hid hd4
          clear hnx hd1 hd4 hr hs
          go_wp2
          go_loopw [10] (fun i wr => ∃ v : Nat, v ≤ xs.length ∧ i = .int .i64 v ∧ ∃ q2, wr = w3.drewN q2) (fun i _ => xs.length - (intOf i).toNat)
          case atStart => exact ⟨0, by omega, rfl, q2, rfl⟩
          case round =>
            obtain ⟨v, hv, rfl, q3, rfl⟩ := hrel
            by_cases hlv : v < xs.length
            · obtain ⟨b2, off2, hba, hcell2⟩ := HC3.out v hlv
              obtain ⟨rfl, rfl⟩ : G = b2 ∧ 0 = off2 := by simpa using hba
              rw [(HRW.out v hlv).1, Nat.zero_add] at hcell2
              have hf8 := (HRW.out v hlv).2
              have hvi : (v : Int) < (xs.length : Int) := by omega
              have hv8 : (v : Int) < 8 := by omega
              have hv64 : (v : Int) < 64 := by omega
              cases hbt : r.testBit v with
              | true =>
                have hz := HD4.out v hbt
                have hand2 : bits .andNot .i64 ((gfun xs v : Nat) : Int) (r : Int) = 0 := by rw [andNot64 _ _ hf8 hd3, hz]; rfl
                obtain ⟨t1, t0⟩ := shr_is r v hd3 true hbt
                rw [Bool.not_true] at t0
                clear hbt hz hba
                go_wp2
                go_quiet (fail)
                go_wp2
                go_roundw
                all_goals first | exact ⟨v + 1, by omega, by go_num, _, rfl⟩ | (simp [intOf]; omega)
              | false =>
                obtain ⟨t1, t0⟩ := shr_is r v hd3 false hbt
                rw [Bool.not_false] at t0
                clear hbt hba
                go_wp2
                go_quiet (fail)
                go_wp2
                go_roundw
                all_goals first | exact ⟨v + 1, by omega, by go_num, _, rfl⟩ | (simp [intOf]; omega)
            · obtain rfl : v = xs.length := by omega
              go_wp2
              go_roundw
              all_goals first | exact ⟨k + 1, by omega, by go_num, by rw [HNX.out], _, rfl⟩ | (simp [intOf]; omega)
        · obtain rfl : k = P.length := by omega
          have hlw := low_wrap' (n := xs.length) (by omega)
          have hlw2 := low_wrap (v := xs.length) (by omega)
          have hpa : orAll (P.take P.length) = 2 ^ xs.length - 1 := by rw [List.take_length]; exact HPA.out
          have hn8 : (xs.length : Int) ≤ 8 := by exact_mod_cast h8
          rw [hpa]
          go_wp2
          go_ret
          exact ⟨rfl, below_drewN HBB.out _⟩
  · have e1 : ((1048576 : Int) < (L : Int)) = True := by simp; omega
    go_enter Tryd.func7, Tryd.ntmps7
    go_wp2
    go_ret
    exact ⟨rfl, Below.refl _ _⟩

end Go.Proofs.YtcklinoiaiilgabDoor
