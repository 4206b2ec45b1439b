/-
  The drawn laws of polynomials: FnPoly, FnPolyAt, FnPolyAdd, FnPolyTimes, FnPolyDerive.
-/
import Derived.Test.YtldnipbpjohikabDrawPolys
import Derived.Test.YtldnipbpjohikabPolyLaws
import Derived.Test.YtldnipbpjohikabSame
namespace Go.Proofs.Ytldnipbpjohikab
open Go.RowKit

theorem madeOk_both {a : Bool} {p : List Int} (h : madeOk a p = true) : a = true ∧ okPoly p = true := by
  unfold madeOk at h; simpa using h
theorem madeList_of {a : Bool} {p : List Int} (h : madeOk a p = true) : madeList a p = p := by
  obtain ⟨rfl, h2⟩ := madeOk_both h
  unfold madeList toldList
  rw [if_pos rfl, if_pos h2]

set_option maxRecDepth 100000 in
set_option maxHeartbeats 4000000 in
theorem FnPoly_final (w : World) (A : Option Addr) (L cap : Nat) (hc : L ≤ cap) (hm : L ≤ maxLen) (hx : Code8 w A L) :
    Calls Try.prog 3 #[.slice A L cap] w fun e w' => e = .returned (.bool true) ∧ Below w.heap.size w w' := by
  have HD := Lib.hid (drawIn_any w A L cap hc hm hx)
  unfold maxLen at hm
  clear hx
  by_cases hbig : L ≤ 1048576
  · have e1 : ((1048576 : Int) < (L : Int)) = False := by simp; omega
    go_enter Try.func3, Try.ntmps3
    go_wp2_with fail
    refine HD.out.mono ?_
    rintro e w1 ⟨v, xs, rfl, hl, hi, hb1⟩
    have HI := Lib.hid hi
    clear hi
    go_wp2_with fail
    refine (polyIn_any w1 v xs HI.out).mono ?_
    rintro e w' ⟨rfl, rfl⟩
    go_wp2_with fail
    refine (specPIn_any w1 v xs HI.out).mono ?_
    rintro e w' ⟨rfl, rfl⟩
    cases hk : okPoly xs with
    | false =>
      go_wp2
      go_ret
      exact ⟨rfl, hb1⟩
    | true =>
      have hmade : madeOk (okPoly xs && okPoly []) (trim (addL xs [])) = true := by
        rw [trim_addL_nil, okPoly_trim hk, hk]; exact hk
      have hlist := madeList_of hmade
      have hadd : trim (addL xs []) = xs := by rw [trim_addL_nil, okPoly_trim hk]
      rw [hadd] at hmade hlist
      have hA := implAdd_any (w1.alloc (.cells #[] 3)) v (.slice (some ⟨w1.heap.size, 0, none⟩) 0 0) xs [] (HI.out.below ((Below.refl _ _).alloc (Nat.le_refl _) _)) (ints_of_owns (owns_empty w1 w1.heap.size (Nat.le_refl _)))
      rw [hadd, hmade, hlist] at hA
      have HA := Lib.hid hA
      have hb2 : Below w.heap.size w (w1.alloc (.cells #[] 3)) := hb1.alloc hb1.size _
      have hi2 : Ints (w1.alloc (.cells #[] 3)) v xs := HI.out.below ((Below.refl _ _).alloc (Nat.le_refl _) _)
      have HI2 := Lib.hid hi2
      clear hA hk hmade hlist hadd hi2
      go_wp2_with fail
      refine HA.out.mono ?_
      rintro e w3 ⟨x, rfl, hb3, ho3⟩
      go_wp2_with fail
      refine (sameInts_same w3 _ _ xs (ints_of_owns ho3) (HI2.out.below hb3)).mono ?_
      rintro e w4 ⟨rfl, q, rfl⟩
      go_wp2
      go_ret
      exact ⟨rfl, below_drewN (step_below hb2 hb3) q⟩
  · have e1 : ((1048576 : Int) < (L : Int)) = True := by simp; omega
    go_enter Try.func3, Try.ntmps3
    go_wp2
    go_ret
    exact ⟨rfl, Below.refl _ _⟩

end Go.Proofs.Ytldnipbpjohikab
