/-
  spec.GraphSides: the left side, at every list.
-/
import Derived.Test.YtcklinoiaiilgabDoorSpecSides
import Derived.Test.YtcklinoiaiilgabDoorLeft
namespace Go.Proofs.YtcklinoiaiilgabDoor
set_option linter.unusedVariables false
set_option linter.unusedSimpArgs false
open Go.RowKit

theorem sym_of_gIn {xs : List Int} (hg : gIn xs = true) : SymF (gfun xs) := by
  obtain ⟨h1, h8, hok⟩ := gIn_parts hg
  exact symF_of h8 hok (by rw [← gIn_mut h1 h8 hok]; exact hg)

set_option maxHeartbeats 1000000 in
theorem specSides_any (w : World) (v : Value) (xs : List Int) (h : Ints w v xs) :
    Calls Tryd.prog 33 #[v] w (GivesNum w (sideOk xs) (sideOf xs)) := by
  have hs := specIn_any w v xs h
  cases hg : gIn xs with
  | false =>
    have hk : sideOk xs = false := by simp [sideOk, hg]
    have ho : sideOf xs = 0 := by simp [sideOf, hk]
    rw [hg] at hs
    rw [ho, hk]
    have HS := Lib.hid hs
    obtain ⟨A, cap, rfl, hm, _⟩ := h
    clear hs hg ho hk
    go_enter Tryd.func33, Tryd.ntmps33
    go_wp2_with (go_at_call 86; refine HS.out.mono ?_; rintro e w1 ⟨rfl, q, rfl⟩)
    go_ret2
    exact ⟨rfl, below_drewN (Below.refl _ _) q⟩
  | true =>
    obtain ⟨h1, h8, hok⟩ := gIn_parts hg
    have hsame := sides_same (gfun_pow hok) h8
    have hk : sideOk xs = decide ((sidesTo (gfun xs) xs.length xs.length).1 &&& (sidesTo (gfun xs) xs.length xs.length).2 = 0) := by
      unfold sideOk; rw [hg, Bool.true_and, Bool.eq_iff_iff, decide_eq_true_eq, decide_eq_true_eq]; exact hsame.1.symm
    have hlt := gfun_lt h8 hok
    have hc := fun W (hW : Ints W v xs) => l1Sides_any W v xs hW h8 (fun k hk => row_value h8 hok hk) hlt (sideOk xs) hk.symm
    rw [hg] at hs
    have HS := Lib.hid hs
    have HV := Lib.hid h
    cases hb : sideOk xs with
    | true =>
      have ho : ((sidesTo (gfun xs) xs.length xs.length).1 : Int) = sideOf xs := by
        rw [hb] at hk
        rw [hsame.2 (of_decide_eq_true hk.symm)]
        unfold sideOf; rw [if_pos hb]
      rw [hb, ho] at hc
      have HC := Lib.hid hc
      obtain ⟨A, cap, rfl, hm, _⟩ := h
      clear hs hg ho hk hok hlt hc hsame hb
      go_enter Tryd.func33, Tryd.ntmps33
      go_wp2_with (first
        | (go_at_call 86; refine HS.out.mono ?_; rintro e w1 ⟨rfl, q, rfl⟩)
        | (go_at_call 87; refine (HC.out _ (HV.out.drewN q)).mono ?_; rintro e w2 ⟨rfl, rfl⟩))
      go_ret2
      exact ⟨rfl, below_drewN (Below.refl _ _) q⟩
    | false =>
      have ho : sideOf xs = 0 := by simp [sideOf, hb]
      rw [hb] at hc
      rw [ho]
      have HC := Lib.hid hc
      obtain ⟨A, cap, rfl, hm, _⟩ := h
      clear hs hg ho hk hok hlt hc hsame hb
      go_enter Tryd.func33, Tryd.ntmps33
      go_wp2_with (first
        | (go_at_call 86; refine HS.out.mono ?_; rintro e w1 ⟨rfl, q, rfl⟩)
        | (go_at_call 87; refine (HC.out _ (HV.out.drewN q)).mono ?_; rintro e w2 ⟨rfl, rfl⟩))
      go_ret2
      exact ⟨rfl, below_drewN (Below.refl _ _) q⟩

end Go.Proofs.YtcklinoiaiilgabDoor
