/-
  TablePfaffian, the program's and the specification's, and the law of it.
-/
import Derived.Test.YtfcbhcjgjbcjdacDoorImplTPf
import Derived.Test.YtfcbhcjgjbcjdacDoorSpecWhole
import Derived.Test.YtfcbhcjgjbcjdacDoorSpecTSkew
namespace Go.Proofs.YtfcbhcjgjbcjdacDoor
set_option linter.unusedVariables false
set_option linter.unusedSimpArgs false
open Go.RowKit

set_option maxRecDepth 100000 in
set_option maxHeartbeats 1000000 in
theorem specTPf_any (w : World) (v : Value) (xss : List (List Int)) (h : IntRows w v xss) :
    Calls Tryd.prog 36 #[v] w (GivesNum w (skewOf xss) (pfOf xss)) := by
  have hs := specTSkew_any w v xss h
  have HH := Lib.hid h
  cases ht : skewOf xss with
  | false =>
    rw [ht] at hs
    have ho : pfOf xss = 0 := by unfold pfOf; rw [ht]; rfl
    have HO := Lib.hid ho
    have HS := Lib.hid hs
    clear hs ho ht h
    go_enter Tryd.func36, Tryd.ntmps36
    go_wp2_with (go_at_call 62; refine HS.out.mono ?_; rintro e w1 ⟨rfl, hb1⟩)
    go_ret2
    exact ⟨by rw [HO.out]; rfl, hb1⟩
  | true =>
    rw [ht] at hs
    have hl := fun (W : World) (hW : IntRows W v xss) => l5Whole_any xss (skewOf_in ht) true (-1) rfl W v hW
    have ho : pfOf xss = mates (flat xss) (-1) xss.length (2 ^ xss.length - 1) := by unfold pfOf; rw [ht]; rfl
    rw [← ho] at hl
    obtain ⟨r, hr⟩ : ∃ r, pfOf xss = r := ⟨_, rfl⟩
    rw [hr] at hl ⊢
    have HS := Lib.hid hs
    have HL := Lib.hid hl
    clear hs hl ho hr ht h
    go_enter Tryd.func36, Tryd.ntmps36
    go_wp2_with (first
      | (go_at_call 62; refine HS.out.mono ?_; rintro e w1 ⟨rfl, hb1⟩)
      | (go_at_call 57; refine (HL.out _ (HH.out.below hb1)).mono ?_; rintro e w2 ⟨rfl, q2, rfl⟩))
    go_ret2
    exact ⟨rfl, below_drewN hb1 _⟩

end Go.Proofs.YtfcbhcjgjbcjdacDoor
