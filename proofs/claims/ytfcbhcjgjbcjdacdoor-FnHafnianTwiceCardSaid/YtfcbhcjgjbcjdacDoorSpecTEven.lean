/-
  spec.TableEven.
-/
import Derived.Test.YtfcbhcjgjbcjdacDoorTurned
import Derived.Test.YtfcbhcjgjbcjdacDoorGives
namespace Go.Proofs.YtfcbhcjgjbcjdacDoor
set_option linter.unusedVariables false
set_option linter.unusedSimpArgs false
open Go.RowKit

def evenOf (xss : List (List Int)) : Bool := tIn xss && turnB 1 (flat xss) xss.length

set_option maxRecDepth 100000 in
set_option maxHeartbeats 1000000 in
theorem specTEven_any (w : World) (v : Value) (xss : List (List Int)) (h : IntRows w v xss) :
    Calls Tryd.prog 56 #[v] w (GivesBool w (evenOf xss)) := by
  have hs := fun W (hW : IntRows W v xss) => specTIn_any W v xss hW
  have HH := Lib.hid h
  have hrows := h
  cases ht : tIn xss with
  | false =>
    rw [ht] at hs
    have ho : evenOf xss = false := by unfold evenOf; rw [ht]; rfl
    have HO := Lib.hid ho
    have HS := Lib.hid hs
    clear hs ho ht hrows h
    go_enter Tryd.func56, Tryd.ntmps56
    go_wp2_with (go_at_call 59; refine (HS.out _ HH.out).mono ?_; rintro e w1 ⟨rfl, q, rfl⟩)
    go_ret
    exact ⟨ret_bool HO.out.symm, below_drewN (Below.refl _ _) _⟩
  | true =>
    rw [ht] at hs
    have hl := fun W (hW : IntRows W v xss) => turned_any W v xss hW ht 1 (.inl rfl)
    obtain ⟨b, hb⟩ : ∃ b, turnB 1 (flat xss) xss.length = b := ⟨_, rfl⟩
    rw [hb] at hl
    have ho : evenOf xss = b := by unfold evenOf; rw [ht, hb]; rfl
    have HO := Lib.hid ho
    have HS := Lib.hid hs
    have HL := Lib.hid hl
    clear hs hl ho ht hb hrows h
    go_enter Tryd.func56, Tryd.ntmps56
    go_wp2_with (first
      | (go_at_call 59; refine (HS.out _ HH.out).mono ?_; rintro e w1 ⟨rfl, q, rfl⟩)
      | (go_at_call 89; refine (HL.out _ (HH.out.drewN q)).mono ?_; rintro e w2 ⟨rfl, q2, rfl⟩))
    go_ret
    exact ⟨ret_bool HO.out.symm, below_drewN (Below.refl _ _) _⟩

end Go.Proofs.YtfcbhcjgjbcjdacDoor
