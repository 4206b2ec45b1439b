/-
  impl.PolyIn, PolyAdd, PolyTimes, PolyDerive, PolyAt: what they hand back.
-/
import Derived.Test.YtejbeglchholhaaDoorPolyMul
import Derived.Test.YtejbeglchholhaaDoorNum
namespace Go.Proofs.YtejbeglchholhaaDoor
set_option linter.unusedVariables false
set_option linter.unusedSimpArgs false
open Go.RowKit


/-- What is handed back of a polynomial that was made. -/
def madeOk (c : Bool) (p : List Int) : Bool := c && okPoly p
def madeList (c : Bool) (p : List Int) : List Int := if c = true then toldList p else []



/-- A list that may be multiplied. -/
def smallP (p : List Int) : Bool := okPoly p && within 100000 p

def timesOk (p q : List Int) : Bool := okPoly p && okPoly q && decide (p.length + q.length ≤ 22) && within 100000 p && within 100000 q
set_option maxHeartbeats 4000000 in
theorem implTimes_any (w : World) (v u : Value) (p q : List Int) (hv : Ints w v p) (hu : Ints w u q) :
    Calls Tryd.prog 12 #[v, u] w (GivesInts w (madeOk (timesOk p q) (trim (mulL p q))) (madeList (timesOk p q) (trim (mulL p q)))) := by
  have hp := isPoly_any w v p hv
  have hq := isPoly_any w u q hu
  have hwp := within_any w v p hv 100000 (by omega) (by omega)
  have hwq := within_any w u q hu 100000 (by omega) (by omega)
  have hv0 := hv
  have hu0 := hu
  obtain ⟨A, capA, rfl, lm1, _⟩ := hv
  obtain ⟨B, capB, rfl, lm2, _⟩ := hu
  unfold maxLen at lm1 lm2
  unfold timesOk
  have HV := Lib.hid hv0
  have HU := Lib.hid hu0
  clear hv0 hu0
  cases c1 : okPoly p with
  | false =>
    rw [c1] at hp
    have HP := Lib.hid hp
    clear hp hq c1 hwp hwq
    go_enter Tryd.func12, Tryd.ntmps12
    go_wp2_with fail
    refine HP.out.mono ?_
    rintro e w' ⟨rfl, rfl⟩
    go_wp2
    go_ret2
    exact ⟨_, rfl, Below.refl _ _, World.ownsRow_nil _ _ _ _⟩
  | true =>
    rw [c1] at hp
    cases c2 : okPoly q with
    | false =>
      rw [c2] at hq
      have HP := Lib.hid hp
      have HQ := Lib.hid hq
      clear hp hq c1 c2 hwp hwq
      go_enter Tryd.func12, Tryd.ntmps12
      go_wp2_with fail
      refine HP.out.mono ?_
      rintro e w' ⟨rfl, rfl⟩
      go_wp2_with fail
      refine HQ.out.mono ?_
      rintro e w' ⟨rfl, rfl⟩
      go_wp2
      go_ret2
      exact ⟨_, rfl, Below.refl _ _, World.ownsRow_nil _ _ _ _⟩
    | true =>
      rw [c2] at hq
      have k1 := (okPoly_iff.1 c1).1
      have k2 := (okPoly_iff.1 c2).1
      have HP := Lib.hid hp
      have HQ := Lib.hid hq
      clear hp hq c1 c2
      by_cases c3 : p.length + q.length ≤ 22
      · have c3' : ¬ 22 < (p.length : Int) + (q.length : Int) := by omega
        have e3 : decide (p.length + q.length ≤ 22) = true := decide_eq_true c3
        rw [e3]
        clear e3
        cases c4 : within 100000 p with
        | false =>
          rw [c4] at hwp
          have HWP := Lib.hid hwp
          clear hwp hwq c4
          go_enter Tryd.func12, Tryd.ntmps12
          go_wp2_with fail
          refine HP.out.mono ?_
          rintro e w' ⟨rfl, rfl⟩
          go_wp2_with fail
          refine HQ.out.mono ?_
          rintro e w' ⟨rfl, rfl⟩
          go_wp2_with fail
          refine HWP.out.mono ?_
          rintro e w' ⟨rfl, rfl⟩
          go_wp2
          go_ret2
          exact ⟨_, rfl, Below.refl _ _, World.ownsRow_nil _ _ _ _⟩
        | true =>
          rw [c4] at hwp
          have HWP := Lib.hid hwp
          clear hwp
          cases c5 : within 100000 q with
          | false =>
            rw [c5] at hwq
            have HWQ := Lib.hid hwq
            clear hwq c5 c4
            go_enter Tryd.func12, Tryd.ntmps12
            go_wp2_with fail
            refine HP.out.mono ?_
            rintro e w' ⟨rfl, rfl⟩
            go_wp2_with fail
            refine HQ.out.mono ?_
            rintro e w' ⟨rfl, rfl⟩
            go_wp2_with fail
            refine HWP.out.mono ?_
            rintro e w' ⟨rfl, rfl⟩
            go_wp2_with fail
            refine HWQ.out.mono ?_
            rintro e w' ⟨rfl, rfl⟩
            go_wp2
            go_ret2
            exact ⟨_, rfl, Below.refl _ _, World.ownsRow_nil _ _ _ _⟩
          | true =>
            rw [c5] at hwq
            have HWQ := Lib.hid hwq
            have HA := Lib.hid (times_any _ _ p q c4 c5 (by omega) (by omega) w HV.out HU.out)
            clear hwq c5 c4
            go_enter Tryd.func12, Tryd.ntmps12
            go_wp2_with fail
            refine HP.out.mono ?_
            rintro e w' ⟨rfl, rfl⟩
            go_wp2_with fail
            refine HQ.out.mono ?_
            rintro e w' ⟨rfl, rfl⟩
            go_wp2_with fail
            refine HWP.out.mono ?_
            rintro e w' ⟨rfl, rfl⟩
            go_wp2_with fail
            refine HWQ.out.mono ?_
            rintro e w' ⟨rfl, rfl⟩
            go_wp2_with fail
            refine HA.out.mono ?_
            rintro e w1 ⟨x, rfl, hb, ho⟩
            go_wp2_with fail
            refine (toldPoly_any w1 _ _ _ ho).mono ?_
            rintro e w2 ⟨y, rfl, rfl, ho2⟩
            go_wp2
            go_ret2
            exact ⟨_, rfl, hb, ho2⟩
      · have c3' : 22 < (p.length : Int) + (q.length : Int) := by omega
        have e3 : decide (p.length + q.length ≤ 22) = false := decide_eq_false c3
        rw [e3]
        clear hwp hwq e3
        go_enter Tryd.func12, Tryd.ntmps12
        go_wp2_with fail
        refine HP.out.mono ?_
        rintro e w' ⟨rfl, rfl⟩
        go_wp2_with fail
        refine HQ.out.mono ?_
        rintro e w' ⟨rfl, rfl⟩
        go_wp2
        go_ret2
        exact ⟨_, rfl, Below.refl _ _, World.ownsRow_nil _ _ _ _⟩


end Go.Proofs.YtejbeglchholhaaDoor
