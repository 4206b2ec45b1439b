/-
  impl.PolyIn, PolyAdd, PolyTimes, PolyDerive, PolyAt: what they hand back.
-/
import Derived.Test.YtnmemefkeehjjabDoorPolyMul
import Derived.Test.YtnmemefkeehjjabDoorNum
namespace Go.Proofs.YtnmemefkeehjjabDoor
set_option linter.unusedVariables false
set_option linter.unusedSimpArgs false
open Go.RowKit

set_option maxHeartbeats 400000 in
theorem polyIn_any (w : World) (v : Value) (p : List Int) (h : Ints w v p) : Calls Tryd.prog 32 #[v] w fun e w' => e = .returned (.bool (okPoly p)) ∧ w = w' := by
  have HP := Lib.hid (isPoly_any w v p h)
  clear h
  go_enter Tryd.func32, Tryd.ntmps32
  go_wp2_with (go_at_call 60; refine HP.out.mono ?_; rintro e w' ⟨rfl, rfl⟩)
  go_ret
  exact ⟨rfl, rfl⟩

/-- What is handed back of a polynomial that was made. -/
def madeOk (c : Bool) (p : List Int) : Bool := c && okPoly p
def madeList (c : Bool) (p : List Int) : List Int := if c = true then toldList p else []

set_option maxHeartbeats 2000000 in
theorem implAdd_any (w : World) (v u : Value) (p q : List Int) (hv : Ints w v p) (hu : Ints w u q) :
    Calls Tryd.prog 13 #[v, u] w (GivesInts w (madeOk (okPoly p && okPoly q) (trim (addL p q))) (madeList (okPoly p && okPoly q) (trim (addL p q)))) := by
  have hp := polyIn_any w v p hv
  have hq := polyIn_any w u q hu
  have HV := Lib.hid hv
  have HU := Lib.hid hu
  cases c1 : okPoly p with
  | false =>
    rw [c1] at hp
    have HP := Lib.hid hp
    clear hp hq c1 hv hu
    go_enter Tryd.func13, Tryd.ntmps13
    go_wp2_with (go_at_call 32; refine HP.out.mono ?_; rintro e w' ⟨rfl, rfl⟩)
    go_ret2
    exact ⟨_, rfl, Below.refl _ _, World.ownsRow_nil _ _ _ _⟩
  | true =>
    rw [c1] at hp
    cases c2 : okPoly q with
    | false =>
      rw [c2] at hq
      have HP := Lib.hid hp
      have HQ := Lib.hid hq
      clear hp hq c1 c2 hv hu
      go_enter Tryd.func13, Tryd.ntmps13
      go_wp2_with fail
      refine HP.out.mono ?_
      rintro e w' ⟨rfl, rfl⟩
      go_wp2_with fail
      refine HQ.out.mono ?_
      rintro e w' ⟨rfl, rfl⟩
      go_wp2
      go_ret2
      exact ⟨_, rfl, Below.refl _ _, World.ownsRow_nil _ _ _ _⟩
    | true =>
      rw [c2] at hq
      have k1 := okPoly_iff.1 c1
      have k2 := okPoly_iff.1 c2
      have HP := Lib.hid hp
      have HQ := Lib.hid hq
      have HA := Lib.hid (plus_any v u p q (within_mono k1.2.1 (by omega)) (within_mono k2.2.1 (by omega)) (by omega) (by omega) w hv hu)
      clear hp hq c1 c2 hv hu k1 k2
      go_enter Tryd.func13, Tryd.ntmps13
      go_wp2_with fail
      refine HP.out.mono ?_
      rintro e w' ⟨rfl, rfl⟩
      go_wp2_with fail
      refine HQ.out.mono ?_
      rintro e w' ⟨rfl, rfl⟩
      go_wp2_with fail
      refine HA.out.mono ?_
      rintro e w1 ⟨x, rfl, hb, ho⟩
      go_wp2_with fail
      refine (toldPoly_any w1 _ _ _ ho).mono ?_
      rintro e w2 ⟨y, rfl, rfl, ho2⟩
      go_wp2
      go_ret2
      exact ⟨_, rfl, hb, ho2⟩

set_option maxHeartbeats 2000000 in
theorem implDerive_any (w : World) (v : Value) (p : List Int) (hv : Ints w v p) :
    Calls Tryd.prog 11 #[v] w (GivesInts w (madeOk (okPoly p) (trim (derL p))) (madeList (okPoly p) (trim (derL p)))) := by
  have hp := polyIn_any w v p hv
  cases c1 : okPoly p with
  | false =>
    rw [c1] at hp
    have HP := Lib.hid hp
    clear hp c1 hv
    go_enter Tryd.func11, Tryd.ntmps11
    go_wp2_with (go_at_call 32; refine HP.out.mono ?_; rintro e w' ⟨rfl, rfl⟩)
    go_ret2
    exact ⟨_, rfl, Below.refl _ _, World.ownsRow_nil _ _ _ _⟩
  | true =>
    rw [c1] at hp
    have k1 := okPoly_iff.1 c1
    have HP := Lib.hid hp
    have HA := Lib.hid (derived_any v p k1.2.1 (by omega) w hv)
    clear hp c1 hv k1
    go_enter Tryd.func11, Tryd.ntmps11
    go_wp2_with fail
    refine HP.out.mono ?_
    rintro e w' ⟨rfl, rfl⟩
    go_wp2_with fail
    refine HA.out.mono ?_
    rintro e w1 ⟨x, rfl, hb, ho⟩
    go_wp2_with fail
    refine (toldPoly_any w1 _ _ _ ho).mono ?_
    rintro e w2 ⟨y, rfl, rfl, ho2⟩
    go_wp2
    go_ret2
    exact ⟨_, rfl, hb, ho2⟩

/-- A list that may be multiplied. -/
def smallP (p : List Int) : Bool := okPoly p && within 100000 p



end Go.Proofs.YtnmemefkeehjjabDoor
