/-
  TableHafnian, the program's and the specification's, and the law of it.
-/
import Derived.Test.YtfcbhcjgjbcjdacDoorImplTHaf
import Derived.Test.YtfcbhcjgjbcjdacDoorSpecWhole
import Derived.Test.YtfcbhcjgjbcjdacDoorSpecTEven
namespace Go.Proofs.YtfcbhcjgjbcjdacDoor
set_option linter.unusedVariables false
set_option linter.unusedSimpArgs false
open Go.RowKit

set_option maxRecDepth 100000 in
set_option maxHeartbeats 1000000 in
theorem specTHaf_any (w : World) (v : Value) (xss : List (List Int)) (h : IntRows w v xss) :
    Calls Tryd.prog 27 #[v] w (GivesNum w (evenOf xss) (hafOf xss)) := by
  have hs := specTEven_any w v xss h
  have HH := Lib.hid h
  cases ht : evenOf xss with
  | false =>
    rw [ht] at hs
    have ho : hafOf xss = 0 := by unfold hafOf; rw [ht]; rfl
    have HO := Lib.hid ho
    have HS := Lib.hid hs
    clear hs ho ht h
    go_enter Tryd.func27, Tryd.ntmps27
    go_wp2_with (go_at_call 56; refine HS.out.mono ?_; rintro e w1 ⟨rfl, hb1⟩)
    go_ret2
    exact ⟨by rw [HO.out]; rfl, hb1⟩
  | true =>
    rw [ht] at hs
    have hl := fun (W : World) (hW : IntRows W v xss) => l5Whole_any xss (evenOf_in ht) false 1 rfl W v hW
    have ho : hafOf xss = mates (flat xss) 1 xss.length (2 ^ xss.length - 1) := by unfold hafOf; rw [ht]; rfl
    rw [← ho] at hl
    obtain ⟨r, hr⟩ : ∃ r, hafOf xss = r := ⟨_, rfl⟩
    rw [hr] at hl ⊢
    have HS := Lib.hid hs
    have HL := Lib.hid hl
    clear hs hl ho hr ht h
    go_enter Tryd.func27, Tryd.ntmps27
    go_wp2_with (first
      | (go_at_call 56; refine HS.out.mono ?_; rintro e w1 ⟨rfl, hb1⟩)
      | (go_at_call 57; refine (HL.out _ (HH.out.below hb1)).mono ?_; rintro e w2 ⟨rfl, q2, rfl⟩))
    go_ret2
    exact ⟨rfl, below_drewN hb1 _⟩

end Go.Proofs.YtfcbhcjgjbcjdacDoor
