/-
  impl.CostIn, and the law of it.
-/
import Derived.Test.YtjbgjebbfkhidabDoorTabs
import Derived.Test.YtjbgjebbfkhidabDoorLawQIn
namespace Go.Proofs.YtjbgjebbfkhidabDoor
set_option linter.unusedVariables false
set_option linter.unusedSimpArgs false
open Go.RowKit

theorem cFrom_shape (xss : List (List Int)) : ∃ n F, cFromOf xss = tcells n F := by
  unfold cFromOf; split
  · exact ⟨_, _, rfl⟩
  · exact ⟨_, _, rfl⟩

set_option maxRecDepth 100000 in
set_option maxHeartbeats 400000 in
theorem implQIn_any (w : World) (v : Value) (xss : List (List Int)) (h : IntRows w v xss) :
    Calls Tryd.prog 30 #[v] w (GivesBool w (cIn xss)) := by
  have hf := cFrom_any w v xss h
  obtain ⟨n, F, hs⟩ := cFrom_shape xss
  rw [hs] at hf
  have HF := Lib.hid hf
  obtain ⟨A, cap, rfl, hm, hc⟩ := h.at
  clear hf hs hc h
  go_enter Tryd.func30, Tryd.ntmps30
  go_wp2_with (first
    | (go_at_call 56; refine HF.out.mono ?_; rintro e w1 ⟨rfl, hb1⟩)
    | (refine alloc_whole rfl rfl ?_)
    | (refine store_whole_last rfl _ _ rfl n F _ rfl rfl rfl ?_))
  go_ret
  exact ⟨rfl, hb1.alloc hb1.size _⟩


end Go.Proofs.YtjbgjebbfkhidabDoor
