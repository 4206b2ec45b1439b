/-
  spec.GraphParts: what it hands back.
-/
import Derived.Test.YtcklinoiaiilgabDoorSpecParts
namespace Go.Proofs.YtcklinoiaiilgabDoor
set_option linter.unusedVariables false
set_option linter.unusedSimpArgs false
open Go.RowKit

set_option maxHeartbeats 1000000 in
theorem specParts_any (w : World) (v : Value) (xs : List Int) (h : Ints w v xs) :
    Calls Tryd.prog 36 #[v] w (GivesInts w (gIn xs) (partsOf xs)) := by
  have hs := specIn_any w v xs h
  cases hg : gIn xs with
  | false =>
    have ho : partsOf xs = [] := by simp [partsOf, hg]
    rw [hg] at hs
    rw [ho]
    have HS := Lib.hid hs
    obtain ⟨A, cap, rfl, hm, _⟩ := h
    clear hs hg ho
    go_enter Tryd.func36, Tryd.ntmps36
    go_wp2_with (go_at_call 86; refine HS.out.mono ?_; rintro e w1 ⟨rfl, q, rfl⟩)
    go_ret2
    exact ⟨_, rfl, below_drewN ((Below.refl _ _).alloc (Nat.le_refl _) _) q, owns_empty w _ (Nat.le_refl _)⟩
  | true =>
    obtain ⟨h1, h8, hok⟩ := gIn_parts hg
    have ho : partsOf xs = (partsTo (gfun xs) xs.length xs.length).1.map (fun (r : Nat) => (r : Int)) := by simp [partsOf, hg]
    have hmu : mutB xs.length (gfun xs) = true := by rw [← gIn_mut h1 h8 hok]; exact hg
    have hsy := symF_of h8 hok hmu
    rw [hg] at hs
    rw [ho]
    have hc := fun W (hW : Ints W v xs) => l1Parts_any W v xs hW h8 hsy (gfun_pow hok) (fun k hk => row_value h8 hok hk)
    have HS := Lib.hid hs
    have HC := Lib.hid hc
    have HV := Lib.hid h
    obtain ⟨A, cap, rfl, hm, _⟩ := h
    have hlw := low_wrap' (n := xs.length) (by omega)
    have hlw2 := low_wrap (v := xs.length) (by omega)
    have hl8 : (xs.length : Int) ≤ 8 := by omega
    clear hs hg ho hmu hsy hok hc
    go_enter Tryd.func36, Tryd.ntmps36
    go_wp2_with (first
      | (go_at_call 86; refine HS.out.mono ?_; rintro e w1 ⟨rfl, q, rfl⟩)
      | (go_at_call 89; refine (HC.out _ (HV.out.drewN q)).mono ?_; rintro e w2 ⟨r, rfl, hb2, ho2⟩))
    go_ret2
    refine ⟨_, rfl, step_below (below_drewN (Below.refl _ _) q) hb2, ?_⟩
    show World.ownsRow _ _ _ _ _ (List.length _) _
    rw [List.length_map]
    exact ho2

end Go.Proofs.YtcklinoiaiilgabDoor
