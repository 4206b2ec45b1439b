/-
  spec.DrawGraphBeside: two lists of numbers are drawn.
-/
import Derived.Test.YtbjpokjllkblaaaDoorDrawStood
namespace Go.Proofs.YtbjpokjllkblaaaDoor
set_option linter.unusedVariables false
set_option linter.unusedSimpArgs false
open Go.RowKit
set_option maxRecDepth 100000

/-- Two lists that were drawn. -/
def GivesTwo (w : World) (e : Ending) (w' : World) : Prop :=
  ∃ G xs H ys, e = .returned (.tuple #[.slice (some ⟨G, 0, none⟩) xs.length xs.length, .slice (some ⟨H, 0, none⟩) ys.length ys.length]) ∧ 1 ≤ xs.length ∧ xs.length ≤ 4 ∧ 1 ≤ ys.length ∧ ys.length ≤ 5 ∧ (∀ x ∈ xs, I64 x) ∧ (∀ x ∈ ys, I64 x) ∧
    Below w.heap.size w w' ∧ Ints w' (.slice (some ⟨G, 0, none⟩) xs.length xs.length) xs ∧ Ints w' (.slice (some ⟨H, 0, none⟩) ys.length ys.length) ys

theorem quo11 {v : Nat} (h : v < 12) : ∃ d : Nat, (v : Int) / 11 = (d : Int) ∧ (v : Int).tdiv 11 = (d : Int) ∧ d ≤ 1 := by
  refine ⟨v / 11, by omega, ?_, by omega⟩
  rw [Int.tdiv_eq_ediv_of_nonneg (by omega)]; omega

set_option maxHeartbeats 4000000 in
theorem DrawGraphBeside_any (w : World) (A : Option Addr) (L cap : Nat) (hc : L ≤ cap) (hm : L ≤ maxLen) (hx : Code8 w A L) :
    Calls Tryd.prog 4 #[.slice A L cap] w (GivesTwo w) := by
  have HO := Lib.hid (open_any w A L cap hc hm)
  have HX := Lib.hid hx
  clear hx hm hc
  go_enter Tryd.func4, Tryd.ntmps4
  go_wp2_with fail
  refine HO.out.mono ?_
  rintro e w1 ⟨r, M, cap', rfl, hM, hML, hrw, hr, hb1⟩
  have hrl := (Array.getElem?_eq_some_iff.1 hr).1
  have hxr := (HX.out.less hML).bytes hb1 r hrw
  have HP := Lib.hid (graph_any w1 r M cap' 0 4 A hr hxr hM hrl (by omega) (by omega) (by omega))
  have HXR := Lib.hid hxr
  clear hr hxr
  go_wp2_with fail
  refine HP.out.mono ?_
  rintro e w2 ⟨G, xs, p, rfl, h1, h4, hI, hw2, ho2, hp, hr2⟩
  have HI := Lib.hid hI
  have HS2 := Lib.hid (show Stood w1 r M cap' G A xs p w2 from ⟨hr2, ho2, hw2⟩)
  clear hI ho2 hw2 hr2 HP
  go_wp2_with fail
  refine (stood_pick (m := 12) HS2.out HXR.out hM hrl (by omega) (by omega) (by omega)).mono ?_
  rintro e w3 ⟨v, hv, rfl, hS3⟩
  obtain ⟨d, hd1, hd2, hd⟩ := quo11 hv
  obtain ⟨c, hcd⟩ : ∃ c, 4 + d = c := ⟨_, rfl⟩
  have hci : (4 : Int) + (d : Int) = (c : Int) := by omega
  have hc5 : c ≤ 5 := by omega
  have HG := Lib.hid (graph_any w3 r M cap' (p + 1) c A hS3.1 (HXR.out.within hS3.2.2) hM (Array.getElem?_eq_some_iff.1 hS3.1).1 (by omega) (by omega) (by omega))
  have HS3 := Lib.hid hS3
  clear hS3 hcd
  go_wp2_with fail
  refine HG.out.mono ?_
  rintro e w4 ⟨H, ys, p', rfl, g1, g5, hJ, hw4, ho4, -, -⟩
  have HJ := Lib.hid hJ
  obtain ⟨s1, s2, s3⟩ := HS3.out
  have HA := Lib.hid (ints_vals (owns_within (w := w1) s2 hw4 hrl))
  have HB := Lib.hid (ints_vals ho4)
  have HW := Lib.hid (Below.within hb1 (s3.trans hw4) hrw)
  clear hJ hw4 ho4 s1 s2 s3
  go_wp2
  go_ret2
  exact ⟨G, xs, H, ys, rfl, h1, h4, g1, by omega, HI.out, HJ.out, HW.out, HA.out, HB.out⟩

end Go.Proofs.YtbjpokjllkblaaaDoor
