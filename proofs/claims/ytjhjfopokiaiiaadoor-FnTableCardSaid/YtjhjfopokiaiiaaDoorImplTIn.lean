/-
  impl.TableIn.
-/
import Derived.Test.YtjhjfopokiaiiaaDoorTFrom
import Derived.Test.YtjhjfopokiaiiaaDoorGives
namespace Go.Proofs.YtjhjfopokiaiiaaDoor
set_option linter.unusedVariables false
set_option linter.unusedSimpArgs false
open Go.RowKit

theorem tFrom_shape (xss : List (List Int)) : ∃ n F, tFromOf xss = tcells n F := by
  unfold tFromOf; split
  · exact ⟨_, _, rfl⟩
  · exact ⟨_, _, rfl⟩

set_option maxRecDepth 100000 in
set_option maxHeartbeats 400000 in
theorem implTIn_any (w : World) (v : Value) (xss : List (List Int)) (h : IntRows w v xss) :
    Calls Tryd.prog 20 #[v] w (GivesBool w (tIn xss)) := by
  have hf := tFrom_any w v xss h
  obtain ⟨n, F, hs⟩ := tFrom_shape xss
  rw [hs] at hf
  have HF := Lib.hid hf
  obtain ⟨A, cap, rfl, hm, hc⟩ := h.at
  clear hf hs hc h
  go_enter Tryd.func20, Tryd.ntmps20
  go_wp2_with (first
    | (go_at_call 25; refine HF.out.mono ?_; rintro e w1 ⟨rfl, hb1⟩)
    | (refine alloc_table rfl rfl ?_)
    | (refine store_table_last rfl _ _ rfl n F _ rfl rfl rfl ?_))
  go_ret
  exact ⟨rfl, hb1.alloc hb1.size _⟩

end Go.Proofs.YtjhjfopokiaiiaaDoor
