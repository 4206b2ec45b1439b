/-
  FnExactPolyWay: at every number what the program hands back is what the specification does, and its memory is its own.
-/
import Derived.Test.YtldnipbpjohikaaGives
import Derived.Test.YtldnipbpjohikaaEqInts
import Derived.Test.YtldnipbpjohikaaMarkInts
namespace Go.Proofs.Ytldnipbpjohikaa
open Go.RowKit

set_option maxHeartbeats 400000 in
/-- The law's walk, over what both functions give. -/
theorem FnExactPolyWay_walk (n : Int) (ok : Bool) (xs : List Int) (hl : xs.length ≤ 1048576)
    (hs : ∀ W, Calls Try.prog 27 #[.int .i64 n] W (GivesInts W ok xs)) (hi : ∀ W, Calls Try.prog 28 #[.int .i64 n] W (GivesInts W ok xs)) (w : World) :
    Calls Try.prog 9 #[.int .i64 n] w fun e w' => e = .returned (.bool true) ∧ Below w.heap.size w w' := by
  have HS := Lib.hid hs
  have HI := Lib.hid hi
  clear hs hi
  go_enter Try.func9, Try.ntmps9
  go_wp2_with fail
  refine (HS.out _).mono ?_
  rintro e w1 ⟨w0, rfl, hb1, ho1⟩
  go_wp2_with fail
  refine (HI.out _).mono ?_
  rintro e w2 ⟨g0, rfl, hb2, ho2⟩
  go_wp2_with fail
  have ho1' := owns_below ho1 hb2
  refine (eqIntS_same _ _ _ xs (ints_of_owns ho2) (ints_of_owns ho1')).mono ?_
  rintro e w3 ⟨rfl, q, rfl⟩
  go_wp2_with fail
  refine (markIntS_any (w2.drewN q) _ _ xs 1 ho2 (by omega) (by omega)).mono ?_
  rintro e w4 ⟨rfl, hg4, ho4⟩
  have ho14 : w4.ownsRow w.heap.size 3 1 w0 xs.length (vals xs) := World.ownsRow.kept (w := w2.drewN q) ho1' hg4 (apart ho1 ho2 (Nat.le_refl _))
  have hs4 : w2.heap.size ≤ w4.heap.size := hg4.size
  have hb4 : Below w.heap.size w w4 := (below_drewN (step_below hb1 hb2) q).grown hg4 (Nat.le_trans hb1.size hb2.size) (fun k hk => Nat.le_trans hb1.size (ho2.lt k hk).1)
  go_wp2_with fail
  refine (heldIntS_any _ _ 1 xs.length (ints_of_owns ho4) (by omega) (by omega)).mono ?_
  rintro e w5 ⟨rfl, rfl⟩
  go_wp2_with fail
  refine (HI.out _).mono ?_
  rintro e w6 ⟨h0, rfl, hb6, ho6⟩
  have ho46 := owns_below ho4 hb6
  have ho16 := owns_below ho14 hb6
  go_wp2_with fail
  refine (eqIntS_same _ _ _ xs (ints_of_owns ho6) (ints_of_owns ho16)).mono ?_
  rintro e w7 ⟨rfl, q2, rfl⟩
  go_wp2_with fail
  refine (heldIntS_any (w6.drewN q2) _ 1 xs.length (ints_of_owns (w := w6.drewN q2) ho46) (by omega) (by omega)).mono ?_
  rintro e w8 ⟨rfl, rfl⟩
  go_wp2
  go_ret
  exact ⟨rfl, below_drewN (hb4.trans (hb6.mono hb4.size)) q2⟩

end Go.Proofs.Ytldnipbpjohikaa
