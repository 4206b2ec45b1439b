/-
  laws.sameRows on lists of lists that hold the same.
-/
import Derived.Test.YthafhcocgohjaabDoorRowsPush
import Derived.Test.YthafhcocgohjaabDoorSame
import Derived.Deep.QuietTactic
import Derived.BigQuiet
import Derived.Deep.RegionLaw
import Derived.Outline
namespace Go.Proofs.YthafhcocgohjaabDoor
set_option linter.unusedVariables false
set_option linter.unusedSimpArgs false
open Go.RowKit

set_option maxHeartbeats 1000000 in
theorem sameRows_same (w : World) (v u : Value) (xss : List (List Int)) (hv : IntRows w v xss) (hu : IntRows w u xss) :
    Calls Tryd.prog 31 #[v, u] w fun e w' => e = .returned (.bool true) ∧ ∃ n, w' = w.drewN n := by
  obtain ⟨A, cap, rfl, hm, hc⟩ := hv.at
  obtain ⟨A2, cap2, rfl, _, hc2⟩ := hu.at
  have HC := Lib.hid hc
  have HC2 := Lib.hid hc2
  clear hc hc2 hv hu
  unfold maxLen at hm
  go_enter Tryd.func31, Tryd.ntmps31
  go_wp2
  go_loopw [5] (fun i wr => ∃ k n : Nat, k ≤ xss.length ∧ i = .int .i64 k ∧ wr = w.drewN n) (fun i _ => xss.length - (intOf i).toNat)
  case atStart => exact ⟨0, 0, by omega, rfl, rfl⟩
  case round =>
    obtain ⟨k, n, hk, rfl, hw⟩ := hrel
    have HW := Lib.hid hw
    by_cases hlt : k < xss.length
    · obtain ⟨b, off, x, rfl, hcell0, hx⟩ := HC.out k hlt
      obtain ⟨b2, off2, y, rfl, hcell02, hy⟩ := HC2.out k hlt
      have hcell : wr.cell? ⟨b, off + k, none⟩ = some x := by rw [hw]; exact hcell0
      have hcell2 : wr.cell? ⟨b2, off2 + k, none⟩ = some y := by rw [hw]; exact hcell02
      have hq : ∀ W : World, W.Alike w → Calls Tryd.prog 18 #[x, y] W fun e w' => e = .returned (.bool true) ∧ ∃ n, w' = W.drewN n := by
        intro W hW
        obtain ⟨A3, cap3, rfl, hm3, hc3⟩ := hx
        obtain ⟨A4, cap4, rfl, hm4, hc4⟩ := hy
        exact sameInts_same W _ _ xss[k] ⟨A3, cap3, rfl, hm3, fun i hi => by obtain ⟨b, off, hA, hcell⟩ := hc3 i hi; exact ⟨b, off, hA, (hW.cell _).trans hcell⟩⟩ ⟨A4, cap4, rfl, hm4, fun i hi => by obtain ⟨b, off, hA, hcell⟩ := hc4 i hi; exact ⟨b, off, hA, (hW.cell _).trans hcell⟩⟩
      have HQ := Lib.hid hq
      have hki : (k : Int) < (xss.length : Int) := by omega
      have hk0 : (0 : Int) ≤ (k : Int) := by omega
      have hA1 : wr.drew.Alike w := by rw [hw]; exact ⟨rfl, rfl, rfl⟩
      have HA1 := Lib.hid hA1
      clear hcell0 hcell02 hx hy hq hw hA1
      go_wp2
      go_region_law (go_simp; go_at_call 18; refine (HQ.out _ HA1.out).mono ?_; rintro e w' ⟨rfl, q, rfl⟩)
      all_goals go_wp2
      all_goals go_roundw
      all_goals first
        | (refine ⟨k + 1, n + (1 + q), by omega, by go_num, ?_⟩; rw [HW.out]; simp)
        | (simp [intOf]; omega)
    · obtain rfl : k = xss.length := by omega
      clear hw
      go_wp2
      go_ret
      exact ⟨rfl, n, HW.out⟩

end Go.Proofs.YthafhcocgohjaabDoor
