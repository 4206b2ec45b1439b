/-
  spec.l1Edges, spec.GraphEdges: all edges, in order.
-/
import Derived.Test.YtnmemefkeehjjaaDoorCore2
import Derived.Test.YtnmemefkeehjjaaDoorImplEdges
import Derived.Test.YtnmemefkeehjjaaDoorL1Edges
import Derived.OwnWalk
namespace Go.Proofs.YtnmemefkeehjjaaDoor
set_option linter.unusedVariables false
set_option linter.unusedSimpArgs false
open Go.RowKit

set_option maxRecDepth 100000 in
set_option maxHeartbeats 1000000 in
theorem specEdges_any (w : World) (v : Value) (xs : List Int) (h : Ints w v xs) :
    Calls Tryd.prog 109 #[v] w (GivesRows w (gIn xs) (edgesL xs)) := by
  have hs := specIn_any w v xs h
  cases hg : gIn xs with
  | false =>
    have ho : edgesL xs = [] := by simp [edgesL, hg]
    rw [hg] at hs
    rw [ho]
    have HS := Lib.hid hs
    have hmd := World.ownsRow_made (base := w.heap.size) (e := 22) (size := 1) w #[] 0 (Nat.le_refl _) (Nat.zero_le _) rfl
    have HMD := Lib.hid hmd
    obtain ⟨A, cap, rfl, hm, _⟩ := h
    clear hs hg ho hmd
    go_enter Tryd.func109, Tryd.ntmps109
    go_wp2_with (go_at_call 44; refine HS.out.mono ?_; rintro e w1 ⟨rfl, q, rfl⟩)
    go_ret2
    exact ⟨_, [], rfl, below_drewN ((Below.refl _ _).alloc (Nat.le_refl _) _) q, owns_rows_nil _ _ _ HMD.out⟩
  | true =>
    obtain ⟨h1, h8, hok⟩ := gIn_parts hg
    have ho : edgesL xs = pairsOf (gfun xs) xs.length := by simp [edgesL, hg]
    have hc := fun W (hW : Ints W v xs) => l1Edges_any W v xs hW h8 (gfun_pow hok) (fun k hk => row_value h8 hok hk)
    rw [hg] at hs
    rw [ho]
    have HS := Lib.hid hs
    have HC := Lib.hid hc
    have HV := Lib.hid h
    obtain ⟨A, cap, rfl, hm, _⟩ := h
    clear hs hg ho hok hc
    go_enter Tryd.func109, Tryd.ntmps109
    go_wp2_with (first
      | (go_at_call 44; refine HS.out.mono ?_; rintro e w1 ⟨rfl, q, rfl⟩)
      | (go_at_call 67; refine (HC.out _ (HV.out.drewN q)).mono ?_; rintro e w2 ⟨r, us, rfl, hb2, ho2⟩))
    go_ret2
    exact ⟨_, us, rfl, step_below (below_drewN (Below.refl _ _) q) hb2, ho2⟩

end Go.Proofs.YtnmemefkeehjjaaDoor
